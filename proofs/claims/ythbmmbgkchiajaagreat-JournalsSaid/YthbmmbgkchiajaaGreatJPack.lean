
/- pack, unpack, shape: a sector of a journal. -/
import Derived.Test.YthbmmbgkchiajaaGreatJNum
import Derived.Laws.CopyRow
import Derived.Laws.IdiomCopy
import Derived.Deep.RegionWith
namespace Go.Proofs.YthbmmbgkchiajaaGreat
open Go.RowKit

/-- A slice that holds these bytes. -/
def Bytes (S : Nat → Prop) (w : World) (v : Value) (s : ByteArray) : Prop :=
  ∃ ao cap, v = .slice ao s.size cap ∧ s.size ≤ cap ∧ (ao = none → s.size = 0) ∧ ∀ a, ao = some a → ∃ g o, a = ⟨g, o, none⟩ ∧ g < w.heap.size ∧ S g ∧ w.rangeAt g o (bcells s)

theorem Bytes.keep {S T : Nat → Prop} {w w' : World} {v : Value} {s : ByteArray} (h : Bytes S w v s) (hk : Keeps T w w') (hd : ∀ k, k < w.heap.size → S k → ¬ T k) : Bytes S w' v s := by
  obtain ⟨ao, cap, h1, h2, h3, h4⟩ := h
  refine ⟨ao, cap, h1, h2, h3, fun a ha => ?_⟩
  obtain ⟨g, o, e, e1, e2, e3⟩ := h4 a ha
  exact ⟨g, o, e, Nat.lt_of_lt_of_le e1 hk.size, e2, hk.range e3 e1 (hd g e1 e2)⟩
theorem Bytes.mono {S T : Nat → Prop} {w : World} {v : Value} {s : ByteArray} (h : Bytes S w v s) (hs : ∀ k, k < w.heap.size → S k → T k) : Bytes T w v s := by
  obtain ⟨ao, cap, h1, h2, h3, h4⟩ := h
  refine ⟨ao, cap, h1, h2, h3, fun a ha => ?_⟩
  obtain ⟨g, o, e, e1, e2, e3⟩ := h4 a ha
  exact ⟨g, o, e, e1, hs g e1 e2, e3⟩
theorem Bytes.nil (S : Nat → Prop) (w : World) : Bytes S w (.slice none 0 0) ByteArray.empty := ⟨none, 0, rfl, Nat.le_refl _, fun _ => rfl, fun a h => by cases h⟩
theorem Bytes.row {S : Nat → Prop} {w : World} {g cap o n : Nat} {cs : Array Value} {t : TypeId} {fr : Nat × Nat} {s : ByteArray} (hg : w.heap[g]? = some (.cells cs t fr)) (hS : S g) (hn : s.size = n) (hc : n ≤ cap) (hr : ∀ j, j < (bcells s).length → cs[o + j]? = (bcells s)[j]?) : Bytes S w (.slice (some ⟨g, o, none⟩) n cap) s := by
  subst hn
  refine ⟨some ⟨g, o, none⟩, cap, rfl, hc, (fun h => by cases h), fun a ha => ?_⟩
  cases ha
  refine ⟨g, o, rfl, lt_of_heap hg, hS, fun j v hj => ?_⟩
  rw [cell_of_heap hg, hr j ((List.getElem?_eq_some_iff.1 hj).1)]
  exact hj

def byCopy (args : Array Value) : Sem Value := Builtin.copy_ #[138, 138] 3 args
theorem byCopy_eq (args : Array Value) : Builtin.copy_ #[138, 138] 3 args = byCopy args := rfl

theorem setRow_heap' {w : World} {g : Nat} {cur cs : Array Value} {t : TypeId} {fr : Nat × Nat} (h : w.heap[g]? = some (.cells cur t fr)) : (w.setRow g cs).heap[g]? = some (.cells cs t fr) := setRow_heap w g cur cs t fr h
theorem Keeps.setRow {S : Nat → Prop} {a w : World} (h : Keeps S a w) {g : Nat} (hp : S g ∨ a.heap.size ≤ g) (cs : Array Value) : Keeps S a (w.setRow g cs) :=
  h.trans (T := fun k => k = g) ⟨rfl, rfl, rfl, by simp [World.setRow], fun k _ hn => by simp [World.setRow, Array.getElem?_modify, Ne.symm hn]⟩
    (fun i hi e => by subst e; rcases hp with hp | hp; exact hp; exact absurd hi (by omega))

theorem run_byCopy (W : World) (g : Nat) (cur : Array Value) (t : TypeId) (s : ByteArray) (v : Value) (S : Nat → Prop) (hb : Bytes S W v s) (hg : W.heap[g]? = some (.cells cur t (0, 0))) (h64 : cur.size = 64) (hs : s.size ≤ 40) :
    ∃ W', (byCopy #[.slice (some ⟨g, 17, none⟩) 47 47, v]).run Tryz.prog W = .ok (.int .i64 (s.size : Int)) W' ∧ Hid (W'.heap[g]? = some (.cells (cur.toList.take 17 ++ bcells s ++ cur.toList.drop (17 + s.size)).toArray t (0, 0)) ∧ Keeps (fun k => k = g) W W') := by
  obtain ⟨ao, cap, rfl, h2, h3, h4⟩ := hb
  have hu := Tryz.underlying138
  have hsz : (Tryz.prog.info? 5).map (·.size) = some 1 := by kernel_rfl
  by_cases h0 : s.size = 0
  · refine ⟨W, ?_, hide ⟨?_, Keeps.refl _ _⟩⟩
    · have := run_copy_none (P := Tryz.prog) W 138 138 3 5 (some ⟨g, 17, none⟩) ao 47 47 s.size cap hu hsz (by rw [h0]; rfl)
      unfold byCopy
      rw [this, h0]; rfl
    · have e : bcells s = [] := List.length_eq_zero_iff.1 (by rw [bcells_length]; exact h0)
      rw [e, h0, List.append_nil, Nat.add_zero, List.take_append_drop]
      exact hg
  · cases ao with
    | none => exact absurd (h3 rfl) h0
    | some a =>
      obtain ⟨g', o, rfl, e1, e2, e3⟩ := h4 a rfl
      have hl := bcells_length s
      have := run_copy_row (P := Tryz.prog) W 138 138 3 5 g 17 47 47 ⟨g', o, none⟩ s.size cap cur t (bcells s) hu hsz hg (by rw [hl]; exact (Nat.min_eq_left (by omega)).symm)
        (fun j v hj => by
          have hadd : (⟨g', o, none⟩ : Addr).add j = ⟨g', o + j, none⟩ := by unfold Addr.add; split <;> simp_all
          rw [hadd]; exact e3 j v hj) (by omega) (bcells_one s)
      rw [hl] at this
      exact ⟨_, this, hide ⟨setRow_heap' hg, (Keeps.refl (fun k => k = g) W).setRow (.inl rfl) _⟩⟩

theorem bcells_pack (a b : Nat) (t : ByteArray) (ht : t.size ≤ 40) : bcells (packB a b t) = (List.range 8).map (byteCell a) ++ (List.range 8).map (byteCell b) ++ Value.int .u8 (t.size : Int) :: bcells t ++ List.replicate (47 - t.size) (.int .u8 0) := by
  have e : ((UInt8.ofNat t.size).toNat : Int) = (t.size : Int) := by
    show ((t.size % 256 : Nat) : Int) = _
    rw [Nat.mod_eq_of_lt (by omega)]
  unfold bcells
  rw [packB_list]
  simp only [packL, List.map_append, numB_cells, List.map_cons, List.map_replicate, Array.length_toList]
  have e' : t.data.size = t.size := rfl
  rw [e', e]
  rfl

theorem pack_cells (A B T : List Value) (x z : Value) (hA : A.length = 8) (hB : B.length = 8) (n : Nat) (hT : T.length = n) (hn : n ≤ 40) (c1 c2 c3 : Array Value)
    (h1 : c1 = ((List.replicate 64 z).take 0 ++ A ++ (List.replicate 64 z).drop (0 + 8)).toArray) (h2 : c2 = (c1.toList.take 8 ++ B ++ c1.toList.drop (8 + 8)).toArray) (h3 : c3 = c2.setIfInBounds 16 x) :
    c3.toList.take 17 ++ T ++ c3.toList.drop (17 + n) = A ++ B ++ x :: T ++ List.replicate (47 - n) z := by
  have e1 : c1.toList = A ++ List.replicate 56 z := by rw [h1]; show List.take 0 _ ++ A ++ _ = _; rw [List.take_zero, List.nil_append, List.drop_replicate]
  have e2 : c2.toList = A ++ B ++ List.replicate 48 z := by
    rw [h2, e1]
    show List.take 8 (A ++ _) ++ B ++ _ = _
    rw [List.take_left' hA, List.drop_append, List.drop_of_length_le (by omega), hA, List.nil_append, List.drop_replicate]
  have hAB : (A ++ B).length = 16 := by rw [List.length_append, hA, hB]
  have e3 : c3.toList = A ++ B ++ x :: List.replicate 47 z := by
    rw [h3, Array.toList_setIfInBounds, e2, List.set_append_right _ _ (by omega), hAB, Nat.sub_self, List.replicate_succ, List.set_cons_zero]
  have e17 : 17 + n - 16 = n + 1 := by omega
  rw [e3, List.take_append, List.drop_append, hAB, List.take_of_length_le (by omega), List.drop_of_length_le (by omega), e17, List.drop_succ_cons, List.drop_replicate, List.nil_append]
  show A ++ B ++ List.take 1 (x :: _) ++ T ++ _ = _
  rw [List.take_succ_cons, List.take_zero]
  simp only [List.append_assoc, List.cons_append, List.nil_append]

theorem PutRel.out {b o n : Nat} {cs : Array Value} {t : TypeId} {w wr : World} (h : PutRel b o n cs t w 8 wr) (ho : o + 8 ≤ cs.size) :
    ∃ cs' : Array Value, Hid (cs' = (cs.toList.take o ++ (List.range 8).map (byteCell n) ++ cs.toList.drop (o + 8)).toArray) ∧ Hid (cs'.size = cs.size) ∧ Hid (wr.heap[b]? = some (.cells cs' t (0, 0))) ∧ Hid (Keeps (fun k => k = b) w wr) := by
  obtain ⟨h1, h2⟩ := h.list ho
  obtain ⟨cs', g1, g2, _, _⟩ := h
  rw [g1] at h1
  simp only [Option.some.injEq, Obj.cells.injEq] at h1
  exact ⟨cs', hide h1.1, hide g2, hide g1, hide h2⟩

attribute [local go_sem ↓] byCopy_eq

set_option maxRecDepth 100000 in
set_option maxHeartbeats 200000 in
theorem pack_any (S : Nat → Prop) (a b : Nat) (v : Value) (t : ByteArray) (w : World) (ha : a < 9223372036854775808) (hb : b < 9223372036854775808) (ht : t.size ≤ 40) (hv : Bytes S w v t) :
    Calls Tryz.prog 258 #[.int .i64 (a : Int), .int .i64 (b : Int), v] w fun e w' => e = .returned (.slice (some ⟨w.heap.size, 0, none⟩) 64 64) ∧ w'.heap[w.heap.size]? = some (.cells (bcells (packB a b t)).toArray 5 (0, 0)) ∧ Keeps (fun _ => False) w w' := by
  have HV := hide hv
  obtain ⟨ao, cap, hv', hcap, _⟩ := hv
  subst hv'
  rename_i hx; clear hx
  have hmk := run_make64
  have hkA : Keeps (fun _ => False) w (w.alloc (.cells zrow 5)) := (Keeps.refl _ _).alloc _
  have HA := hide hkA
  have HG := hide (heap_alloc_last w (.cells zrow 5))
  clear hkA
  have HT := hide ht
  go_enter Tryz.func258, Tryz.ntmps258
  go_wp2_with fail
  go_at_call 294
  refine (putNumber_any w.heap.size 0 64 64 a zrow 5 _ ha (by omega) (by omega) (unhide HG) (by rw [zrow_size]; omega)).mono ?_
  rintro e w2 ⟨rfl, hR1⟩
  obtain ⟨c1, HC1, HS1, HG1, HK1⟩ := hR1.out (by rw [zrow_size]; omega)
  clear hR1
  go_wp2_with fail
  go_at_call 294
  refine (putNumber_any w.heap.size 8 56 56 b c1 5 _ hb (by omega) (by omega) (unhide HG1) (by rw [unhide HS1, zrow_size]; omega)).mono ?_
  rintro e w3 ⟨rfl, hR2⟩
  obtain ⟨c2, HC2, HS2, HG2, HK2⟩ := hR2.out (by rw [unhide HS1, zrow_size]; omega)
  clear hR2
  have hc16 : ∃ u, w3.cell? ⟨w.heap.size, 16, none⟩ = some u := ⟨c2[16]'(by rw [unhide HS2, unhide HS1, zrow_size]; omega), by rw [cell_of_heap (unhide HG2)]; exact Array.getElem?_eq_getElem _⟩
  obtain ⟨u16, hc16⟩ := hc16
  have hf16 := frozen_of_heap (o := 16) (unhide HG2)
  have hKK : Keeps (fun k => k = w.heap.size) w (w3.setCell ⟨w.heap.size, 16, none⟩ (.int .u8 (t.size : Int))) := ((((unhide HA).mono (T := fun k => k = w.heap.size) (fun _ _ f => f.elim)).trans (unhide HK1) (fun _ _ e => e)).trans (unhide HK2) (fun _ _ e => e)).setCell (p := ⟨w.heap.size, 16, none⟩) (.inl rfl) _
  obtain ⟨w4, hcopy, HW4⟩ := run_byCopy (w3.setCell ⟨w.heap.size, 16, none⟩ (.int .u8 (t.size : Int))) w.heap.size (c2.setIfInBounds 16 (.int .u8 (t.size : Int))) 5 t _ S ((unhide HV).keep hKK (fun k hk _ e => by omega)) (heap_setCell_same (unhide HG2) _) (by rw [Array.size_setIfInBounds, unhide HS2, unhide HS1]; exact zrow_size) (unhide HT)
  have HKK := hide hKK
  clear hKK
  go_wp2
  go_ret
  obtain ⟨q1, q2⟩ := unhide HW4
  refine ⟨rfl, ?_, ?_⟩
  · rw [q1, bcells_pack a b t ht]
    have := pack_cells ((List.range 8).map (byteCell a)) ((List.range 8).map (byteCell b)) (bcells t) (.int .u8 (t.size : Int)) (.int .u8 0) (by simp) (by simp) t.size (bcells_length t) ht c1 c2 _ (by rw [unhide HC1, show zrow.toList = List.replicate 64 (.int .u8 0) from by unfold zrow; rw [Array.toList_replicate]]) (unhide HC2) rfl
    rw [this]
  · refine ((unhide HKK).trans (S := fun k => k = w.heap.size) q2 (fun _ _ e => e)).mono (fun k hk e => ?_)
    omega

/-- A sector's parts, in memory. -/
theorem sec_parts {w : World} {g : Nat} {fr : Nat × Nat} {ty : TypeId} {a b : Nat} {t : ByteArray} (ht : t.size ≤ 40) (hg : w.heap[g]? = some (.cells (bcells (packB a b t)).toArray ty fr)) :
    NumAt w g 0 a ∧ NumAt w g 8 b ∧ w.cell? ⟨g, 16, none⟩ = some (.int .u8 (t.size : Int)) ∧ ∀ j, j < (bcells t).length → (bcells (packB a b t)).toArray[17 + j]? = (bcells t)[j]? := by
  have hb := bcells_pack a b t ht
  have hc : ∀ k, w.cell? ⟨g, k, none⟩ = (bcells (packB a b t))[k]? := fun k => by rw [cell_of_heap hg]; simp
  have l8 : ∀ n, ((List.range 8).map (byteCell n)).length = 8 := fun n => by simp
  refine ⟨fun i hi => ?_, fun i hi => ?_, ?_, fun j hj => ?_⟩
  · rw [Nat.zero_add, hc, hb, List.append_assoc, List.append_assoc, List.getElem?_append_left (by rw [l8]; exact hi), List.getElem?_map, List.getElem?_range hi]; rfl
  · rw [hc, hb, List.append_assoc, List.append_assoc, List.getElem?_append_right (by rw [l8]; omega), l8, List.getElem?_append_left (by rw [l8]; omega), List.getElem?_map, Nat.add_sub_cancel_left, List.getElem?_range hi]; rfl
  · rw [hc, hb, List.append_assoc, List.append_assoc, List.getElem?_append_right (by rw [l8]; omega), l8, List.getElem?_append_right (by rw [l8]; omega), l8]; rfl
  · have e : (bcells (packB a b t)).toArray[17 + j]? = (bcells (packB a b t))[17 + j]? := by simp
    rw [e, hb, List.append_assoc, List.append_assoc, List.getElem?_append_right (by rw [l8]; omega), l8, List.getElem?_append_right (by rw [l8]; omega), l8, show 17 + j - 8 - 8 = j + 1 by omega, List.cons_append, List.getElem?_cons_succ, List.getElem?_append_left hj]

set_option maxRecDepth 100000 in
set_option maxHeartbeats 200000 in
theorem unpack_any (g a b : Nat) (t : ByteArray) (ty : TypeId) (w : World) (ha : a < 9223372036854775808) (hb : b < 9223372036854775808) (ht : t.size ≤ 40) (hg : w.heap[g]? = some (.cells (bcells (packB a b t)).toArray ty (0, 0))) :
    Calls Tryz.prog 251 #[.slice (some ⟨g, 0, none⟩) 64 64] w fun e w' => e = .returned (.tuple #[.int .i64 (a : Int), .int .i64 (b : Int), .slice (some ⟨g, 17, none⟩) t.size 47]) ∧ Keeps (fun _ => False) w w' := by
  obtain ⟨n0, n8, h16, hx⟩ := sec_parts ht hg
  clear hx
  have H0 := hide n0
  have H8 := hide n8
  have hmin : min (t.size : Int) 40 = (t.size : Int) := by omega
  clear n0 n8 hg
  go_enter Tryz.func251, Tryz.ntmps251
  go_wp2_with fail
  go_quiet (first | (go_at_call_of 293 (Value.slice (some ⟨g, 0, none⟩) 64 64); exact Calls.quiet_of_same (number_any g 0 64 64 a _ ha (by omega) (by omega) (unhide H0))) | (go_at_call_of 293 (Value.slice (some ⟨g, 8, none⟩) 56 56); exact Calls.quiet_of_same (number_any g 8 56 56 b _ hb (by omega) (by omega) (unhide H8))))
  all_goals
    go_wp2
    go_ret3
    refine ⟨?_, (Keeps.refl _ w).drewN _⟩
    have e : 17 + t.size - 17 = t.size := by omega
    show Ending.returned (.tuple #[.int .i64 (a : Int), .int .i64 (b : Int), .slice (some ⟨g, 17, none⟩) (17 + t.size - 17) 47]) = _
    rw [e]

end Go.Proofs.YthbmmbgkchiajaaGreat
