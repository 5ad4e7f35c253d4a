
/- Small functions of a journal: copies of bytes, their comparison, the shape; does a disk fit; which segment, which sector. -/
import Derived.Test.YthbmmbgkchiajaaGreatJPack
import Derived.Laws.BytesArg
import Derived.Laws.IdiomStrings
namespace Go.Proofs.YthbmmbgkchiajaaGreat
open Go.RowKit

theorem run_nilBy (W : World) (a : Option Addr) (n c : Nat) : (binOp .eql 138 (.slice a n c) (.slice none 0 0)).run Tryz.prog W = .ok (.bool a.isNone) W := Lib.run_eql_slice_nil W 138 5 a n c 0 0 Tryz.underlying138

/-- string(b) -/
def strOf (x : Value) : Sem Value := convert 138 9 x
theorem strOf_eq (x : Value) : convert 138 9 x = strOf x := rfl
theorem run_strOf (S : Nat → Prop) (W : World) (v : Value) (s : ByteArray) (h : Bytes S W v s) : (strOf v).run Tryz.prog W = .ok (.string s) W := by
  obtain ⟨ao, cap, rfl, h2, h3, h4⟩ := h
  cases ao with
  | none =>
    have h0 := h3 rfl
    have e : s = ByteArray.empty := by
      apply ByteArray.ext
      apply Array.eq_empty_of_size_eq_zero
      exact h0
    unfold strOf
    rw [run_convert_bytes_string W 138 9 5 none s.size cap Tryz.underlying138 Tryz.underlying5 Tryz.underlying9]
    rw [e]
    rfl
  | some a =>
    obtain ⟨g, o, rfl, e1, e2, e3⟩ := h4 a rfl
    have := run_convert_bytes_back (P := Tryz.prog) W 138 9 5 ⟨g, o, none⟩ cap s.data.toList Tryz.underlying138 Tryz.underlying5 Tryz.underlying9 (fun j hj => by
      have hadd : (⟨g, o, none⟩ : Addr).add j = ⟨g, o + j, none⟩ := by unfold Addr.add; split <;> simp_all
      rw [hadd]
      refine e3 j _ ?_
      unfold bcells
      rw [List.getElem?_map, List.getElem?_eq_getElem hj]; rfl)
    exact this

def byApp (args : Array Value) : Sem Value := Builtin.append_ #[138, 138] 138 args
theorem byApp_eq (args : Array Value) : Builtin.append_ #[138, 138] 138 args = byApp args := rfl
def byBuild0 : Sem Value := Instr.buildSlice 138 0 #[]
theorem byBuild0_eq : Instr.buildSlice 138 0 #[] = byBuild0 := rfl
theorem run_byBuild0 (W : World) : byBuild0.run Tryz.prog W = .ok (.slice (some ⟨W.heap.size, 0, none⟩) 0 0) (W.alloc (.cells #[] 5)) := by
  have hsz : ∀ W', (sizeOf 5).run Tryz.prog W' = .ok 1 W' := fun W' => run_sizeOf W' (by kernel_rfl)
  unfold byBuild0 Instr.buildSlice
  simp [run_underlying Tryz.underlying138, hsz, newRow, Instr.fill]
  have e : Array.range 0 = #[] := Array.eq_empty_of_size_eq_zero (by simp)
  rw [e, Array.map_empty]

theorem run_clone (S : Nat → Prop) (W : World) (ao : Addr) (cap : Nat) (s : ByteArray) (h : Bytes S W (.slice (some ao) s.size cap) s) (hs : s.size ≤ 40) :
    ∃ v' W', (byApp #[.slice (some ⟨W.heap.size, 0, none⟩) 0 0, .slice (some ao) s.size cap]).run Tryz.prog (W.alloc (.cells #[] 5)) = .ok v' W' ∧ Hid (Bytes (fun k => W.heap.size ≤ k) W' v' s ∧ Keeps (fun _ => False) W W') := by
  obtain ⟨iB, hiB, hz0, hz1, hz2⟩ := info_parts infoU8
  have hkA : Keeps (fun _ => False) W (W.alloc (.cells #[] 5)) := (Keeps.refl _ _).alloc _
  obtain ⟨ao', cap', hv, h2, h3, h4⟩ := h.keep hkA (fun _ _ _ f => f)
  cases hv
  obtain ⟨g, o, rfl, e1, e2, e3⟩ := h4 _ rfl
  have hown : (W.alloc (.cells #[] 5)).ownsRow 0 5 1 (.slice (some ⟨W.heap.size, 0, none⟩) 0 0) 0 [] := ⟨rfl, .inr ⟨W.heap.size, 0, #[], rfl, Nat.zero_le _, heap_alloc_last W _, Nat.le_refl _, Nat.zero_le _, rfl, rfl⟩⟩
  obtain ⟨v', W', r0, r1, r2, _, r4⟩ := run_append_own_at (P := Tryz.prog) (W.alloc (.cells #[] 5)) 0 138 138 5 iB _ 1 1 Tryz.underlying138 hiB hz0 hz1 hz2 rfl (by omega) (.slice (some ⟨W.heap.size, 0, none⟩) 0 0) 0 [] hown ⟨g, o, none⟩ s.size cap (bcells s) (by rw [bcells_length]; omega)
    (fun j u hj => by
      have hadd : (⟨g, o, none⟩ : Addr).add j = ⟨g, o + j, none⟩ := by unfold Addr.add; split <;> simp_all
      rw [hadd]; exact e3 j u hj) (bcells_one s) (by unfold maxLen; omega) (by omega) (Nat.zero_le _)
  refine ⟨v', W', r0, hide ⟨?_, ?_⟩⟩
  · rcases r1.2 with ⟨rfl, h0⟩ | ⟨g', c', cur, rfl, _, hg', hc', _, hsz, ht⟩
    · have e0 : s.size = 0 := by omega
      refine ⟨none, 0, by rw [e0], by omega, fun _ => e0, fun a ha => by cases ha⟩
    · refine Bytes.row hg' ?_ (by omega) hc' (fun j hj => ?_)
      · have : g' = W.heap.size ∨ g' = W.heap.size + 1 := by
          rcases r4 with r4 | r4
          · exact .inl (by simpa [Value.ownBlock] using r4)
          · exact .inr (by simpa [Value.ownBlock] using r4)
        show W.heap.size ≤ g'
        omega
      · have := congrArg (fun l => l[j]?) ht
        simp only [List.nil_append, Nat.mul_one] at this
        rw [List.getElem?_take, if_pos (by rw [bcells_length] at hj; omega)] at this
        rw [Nat.zero_add, ← this]; simp
  · exact (hkA.mono (T := fun k => k = W.heap.size) (fun _ _ f => f.elim)).grown r2 (fun k hk _ => by simpa [Value.ownBlock] using hk.symm) |>.mono (fun k hk e => by omega)

/-- A product of two numbers, by a name of its own. -/
def mulI (x y : Value) : Sem Value := binOp .mul 3 x y
theorem mulI_eq (x y : Value) : binOp .mul 3 x y = mulI x y := rfl
theorem run_mulI (W : World) (a b : Nat) (h : a * b ≤ 9223372036854775807) : (mulI (.int .i64 (a : Int)) (.int .i64 (b : Int))).run Tryz.prog W = .ok (.int .i64 ((a * b : Nat) : Int)) W := by
  unfold mulI
  have e : (a : Int) * (b : Int) = ((a * b : Nat) : Int) := rfl
  simp only [binOp_mul, Op.intArith]
  rw [e, IntWalk.i64_in _ ⟨by generalize a * b = z at *; omega, by generalize a * b = z at *; omega⟩]
  rfl

attribute [local go_sem ↓] byApp_eq byBuild0_eq strOf_eq mulI_eq
attribute [local go_sem] run_byBuild0

set_option maxRecDepth 100000 in
set_option maxHeartbeats 200000 in
theorem bClone_any (S : Nat → Prop) (v : Value) (s : ByteArray) (w : World) (h : Bytes S w v s) (hs : s.size ≤ 40) :
    Calls Tryz.prog 261 #[v] w fun e w' => ∃ v', e = .returned v' ∧ Bytes (fun k => w.heap.size ≤ k) w' v' s ∧ Keeps (fun _ => False) w w' := by
  have h' := h
  obtain ⟨ao, cap, rfl, h2, h3, h4⟩ := h'
  have hnil := fun W => run_nilBy W ao s.size cap
  cases ao with
  | none =>
    have HS := hide (h3 rfl)
    clear h3 h4 h
    go_enter Tryz.func261, Tryz.ntmps261
    go_wp2
    go_ret
    exact ⟨.slice none 0 0, rfl, ⟨none, 0, by rw [unhide HS], by rw [unhide HS]; omega, fun _ => unhide HS, fun a ha => by cases ha⟩, Keeps.refl _ _⟩
  | some a =>
    obtain ⟨v', W', hr, HR⟩ := run_clone S w a cap s h hs
    clear h3 h4 h
    go_enter Tryz.func261, Tryz.ntmps261
    go_wp2
    go_ret
    exact ⟨_, rfl, (unhide HR).1, (unhide HR).2⟩

theorem str_eq (s s' : ByteArray) : (s.toList == s'.toList) = decide (s = s') := by
  rw [Bool.eq_iff_iff, beq_iff_eq, decide_eq_true_eq]
  constructor
  · intro h
    rw [ByteArray.toList_eq, ByteArray.toList_eq] at h
    exact WideShapes.bytes_inj h
  · intro h; rw [h]

set_option maxRecDepth 100000 in
set_option maxHeartbeats 200000 in
theorem bEqual_any (S T : Nat → Prop) (v v' : Value) (s s' : ByteArray) (w : World) (h : Bytes S w v s) (h' : Bytes T w v' s') :
    Calls Tryz.prog 252 #[v, v'] w fun e w' => e = .returned (.bool (decide (s = s'))) ∧ w' = w := by
  have h1 := run_strOf S w v s h
  have h2 := run_strOf T w v' s' h'
  clear h h'
  go_enter Tryz.func252, Tryz.ntmps252
  go_wp2
  go_ret
  exact ⟨ret_bool (str_eq s s'), rfl⟩

set_option maxRecDepth 100000 in
set_option maxHeartbeats 200000 in
theorem segment_any (pj per n : Nat) (w : World) (h : w.cell? ⟨pj, 2, none⟩ = some (.int .i64 (per : Int))) (hp : 1 ≤ per) (hp' : per ≤ 16) (hn : 1 ≤ n) (hn' : n < 9223372036854775807) :
    Calls Tryz.prog 256 #[.pointer (some ⟨pj, 0, none⟩), .int .i64 (n : Int)] w fun e w' => e = .returned (.int .i64 (((n - 1) / per : Nat) : Int)) ∧ w' = w := by
  obtain ⟨k, rfl⟩ : ∃ k, n = k + 1 := ⟨n - 1, by omega⟩
  obtain ⟨q, HQ⟩ : ∃ q : Nat, Hid (q = k / per) := ⟨_, hide rfl⟩
  rw [Nat.add_sub_cancel, ← unhide HQ]
  go_enter Tryz.func256, Tryz.ntmps256
  go_wp2
  go_ret
  refine ⟨ret_int ?_, rfl⟩
  have e : (k : Int) / (per : Int) = ((k / per : Nat) : Int) := rfl
  have e2 := Nat.div_le_self k per
  rw [unhide HQ, e, IntWalk.wrap64_in _ ⟨by generalize k / per = z at *; omega, by generalize k / per = z at *; omega⟩]

set_option maxRecDepth 100000 in
set_option maxHeartbeats 200000 in
theorem jsector_any (pj ring per n : Nat) (w : World) (h1 : w.cell? ⟨pj, 1, none⟩ = some (.int .i64 (ring : Int))) (h2 : w.cell? ⟨pj, 2, none⟩ = some (.int .i64 (per : Int))) (hC : 1 ≤ ring * per ∧ ring * per ≤ 96) (hn : 1 ≤ n) (hn' : n < 9223372036854775807) :
    Calls Tryz.prog 257 #[.pointer (some ⟨pj, 0, none⟩), .int .i64 (n : Int)] w fun e w' => e = .returned (.int .i64 ((slot ring per n : Nat) : Int)) ∧ Keeps (fun _ => False) w w' := by
  obtain ⟨k, rfl⟩ : ∃ k, n = k + 1 := ⟨n - 1, by omega⟩
  obtain ⟨C, HQ⟩ : ∃ q : Nat, Hid (q = ring * per) := ⟨_, hide rfl⟩
  have hmul := fun W => run_mulI W ring per (by omega)
  unfold slot
  rw [← unhide HQ] at hmul hC ⊢
  have hm0 : (0 : Int) ≤ (k : Int) % (C : Int) := Int.emod_nonneg _ (by omega)
  have hm1 : (k : Int) % (C : Int) < (C : Int) := Int.emod_lt_of_pos _ (by omega)
  go_enter Tryz.func257, Tryz.ntmps257
  go_wp2
  go_quiet (fail)
  go_wp2
  go_ret
  refine ⟨ret_int ?_, (Keeps.refl _ w).drewN _⟩
  rw [Nat.add_sub_cancel]
  rfl

end Go.Proofs.YthbmmbgkchiajaaGreat
