
/- Read, of the program. -/
import Derived.Test.YthbmmbgkchiajaaGreatDWrite
import Derived.Test.YthbmmbgkchiajaaGreatRRead
import Derived.Test.YthbmmbgkchiajaaGreatRNew
namespace Go.Proofs.YthbmmbgkchiajaaGreat
open Go.RowKit

theorem Own.range {S : Nat → Prop} {w : World} {e size n cap g : Nat} {xs : List Value} (h : Own S w e size (.slice (some ⟨g, 0, none⟩) n cap) n xs) {o : Nat} {cs : List Value} (hs : ∀ j, j < cs.length → xs[o + j]? = cs[j]?) : w.rangeAt g o cs := by
  obtain ⟨⟨hl, hv⟩, hS⟩ := h
  rcases hv with ⟨h0, _⟩ | ⟨g', cap', cur, h0, _, hg, hc, _, hsz, ht⟩
  · cases h0
  · cases h0
    intro j v hj
    rw [cell_of_heap hg]
    have hj' := (List.getElem?_eq_some_iff.1 hj).1
    have := (hs j hj').trans hj
    rw [← ht, List.getElem?_take] at this
    split at this
    · simpa using this
    · cases this

/-- A sector among the durable ones. -/
theorem dur_range {S : Nat → Prop} {w : World} {g cap : Nat} {l : List ByteArray} (h : Own S w 305 64 (.slice (some ⟨g, 0, none⟩) l.length cap) l.length (durCells l)) (hl : ∀ s ∈ l, s.size = 64) {i : Nat} {s : ByteArray} (hi : l[i]? = some s) : w.rangeAt g (i * 64) (bcells s) :=
  h.range (fun j hj => flat_get bcells 64 l i j s (fun y hy => by rw [bcells_length, hl y hy]) hi (by rw [bcells_length, hl s (List.mem_of_getElem? hi)] at hj; exact hj))
/-- The bytes of a write. -/
theorem put_range {S : Nat → Prop} {w : World} {g cap : Nat} {l : List (Nat × ByteArray)} (h : Own S w 307 65 (.slice (some ⟨g, 0, none⟩) l.length cap) l.length (putCells l)) (hl : ∀ x ∈ l, x.2.size = 64) {i : Nat} {x : Nat × ByteArray} (hi : l[i]? = some x) :
    w.cell? ⟨g, i * 65, none⟩ = some (.int .i64 (x.1 : Int)) ∧ w.rangeAt g (i * 65 + 1) (bcells x.2) ∧ w.rangeAt g (i * 65) (putCell x) := by
  have hx := hl x (List.mem_of_getElem? hi)
  have hr : w.rangeAt g (i * 65) (putCell x) := h.range (fun j hj => flat_get putCell 65 l i j x (fun y hy => putCell_length y (hl y hy)) hi (by rw [putCell_length x hx] at hj; exact hj))
  refine ⟨hr 0 _ rfl, ?_, hr⟩
  intro j v hj
  have := hr (j + 1) v (by simpa [putCell] using hj)
  rw [Nat.add_assoc, Nat.add_comm 1 j]
  exact this

/-- From the newest write to the oldest. -/
theorem lastPut_drop (l : List (Nat × ByteArray)) (i : Nat) (s : ByteArray) (k : Nat) (_hk : k < l.length) (hno : ∀ (j : Nat) (x : Nat × ByteArray), k < j → l[j]? = some x → x.1 ≠ i) (x : Nat × ByteArray) (hx : l[k]? = some x) (he : x.1 = i) : lastPut l i s = x.2 := by
  have h1 : l = l.take (k + 1) ++ l.drop (k + 1) := (List.take_append_drop _ _).symm
  have h2 : l.take (k + 1) = l.take k ++ [x] := by rw [List.take_add_one, hx]; rfl
  have h3 : ∀ (d : List (Nat × ByteArray)) (t : ByteArray), (∀ y ∈ d, y.1 ≠ i) → lastPut d i t = t := by
    intro d
    induction d with
    | nil => intro t _; rfl
    | cons y d ih => intro t h; show lastPut d i (if y.1 = i then y.2 else t) = t; rw [if_neg (h y (by simp)), ih t (fun z hz => h z (by simp [hz]))]
  have h4 : lastPut l i s = lastPut (l.drop (k + 1)) i (lastPut (l.take (k + 1)) i s) := by
    have h5 : lastPut (l.take (k + 1) ++ l.drop (k + 1)) i s = lastPut (l.drop (k + 1)) i (lastPut (l.take (k + 1)) i s) := List.foldl_append
    rw [← h1] at h5
    exact h5
  rw [h4, h3 _ _ (fun y hy => by
    obtain ⟨j, hj⟩ := List.getElem?_of_mem hy
    rw [List.getElem?_drop] at hj
    exact hno _ y (by omega) hj), h2, lastPut_snoc, if_pos he]
theorem lastPut_none (l : List (Nat × ByteArray)) (i : Nat) (s : ByteArray) (hno : ∀ (j : Nat) (x : Nat × ByteArray), l[j]? = some x → x.1 ≠ i) : lastPut l i s = s := by
  induction l generalizing s with
  | nil => rfl
  | cons y d ih =>
    show lastPut d i (if y.1 = i then y.2 else s) = s
    rw [if_neg (hno 0 y (by simp)), ih s (fun j x hj => hno (j + 1) x (by simpa using hj))]

/-- A new variable that is a sector; a store into it. -/
def secAlloc (h : Bool) (x : Value) : Sem Value := Instr.alloc 305 h x
theorem secAlloc_eq (h : Bool) (x : Value) : Instr.alloc 305 h x = secAlloc h x := rfl
theorem infoSec : (Tryz.prog.info? 305).map (fun i => (i.zero, i.size, i.bytes)) = some (some (.agg zrow), 64, 64) := infoSector
theorem run_secAlloc (W : World) : (secAlloc true (.tuple #[])).run Tryz.prog W = .ok (.pointer (some ⟨W.heap.size, 0, none⟩)) (W.alloc (.cells zrow 305)) := by
  obtain ⟨i0, hi, hz0, hz1, hz2⟩ := info_parts infoSec
  simp [secAlloc, Instr.alloc, zeroValue, typeInfo, hi, hz0, newVar, newRow, Value.cells]
def secStore (x v : Value) : Sem Unit := Instr.storeAt 305 x v
theorem secStore_eq (x v : Value) : Instr.storeAt 305 x v = secStore x v := rfl
theorem run_secStore (W : World) (c c' : Array Value) (hc : c.size = 64) (hc' : c'.size = 64) (h1 : c'.all (·.oneCell') = true) : (secStore (.pointer (some ⟨W.heap.size, 0, none⟩)) (.agg c')).run Tryz.prog (W.alloc (.cells c 305)) = .ok () (W.alloc (.cells c' 305)) :=
  run_storeAt_new W 305 c c' (by rw [hc']; exact sizeSector) (by omega) h1
attribute [local go_sem ↓] secLoad_eq secAlloc_eq secStore_eq
attribute [local go_sem] run_secAlloc
theorem zrow_size : zrow.size = 64 := by simp [zrow]
theorem bcells_all (s : ByteArray) : (bcells s).toArray.all (·.oneCell') = true := all_oneCell_toArray (bcells_one s)
theorem currentResults : Tryz.f255.results = #[.cell 4 305] := by kernel_rfl

theorem results_cell_one {fn : Func} {p : Tmp} {ty : TypeId} (h : fn.results = #[.cell p ty]) (tmps : Array Value) (P : Program) (w : World) :
    (results fn tmps).run P w = ((asAddr (tmps.getD p undef)).run P w).andThen fun a w₁ => (loadVar ty a).run P w₁ := by
  simp only [results, h]
  simp [Sem.run_bind, Result.andThen]

theorem current_ret (tmps : Array Value) (W : World) (c : Array Value) (hc : c.size = 64) (ht : tmps.getD 4 undef = .pointer (some ⟨W.heap.size, 0, none⟩)) :
    (results Tryz.f255 tmps).run Tryz.prog (W.alloc (.cells c 305)) = .ok (.agg c) (W.alloc (.cells c 305)) := by
  rw [results_cell_one currentResults, ht]
  simp only [asAddr, Sem.run_pure, Result.andThen_ok]
  exact run_loadVar_new W 305 c 64 _ Tryz.underlying305 (by rw [hc]; exact sizeSector)
theorem ret_agg {a b : Array Value} (h : a = b) : Ending.returned (.agg a) = .returned (.agg b) := by rw [h]

set_option maxRecDepth 100000 in
set_option maxHeartbeats 800000 in
theorem current_any (S : Nat → Prop) (p : Nat) (m : DM) (i : Nat) (w : World) (hD : PDisk S w p m) (hm : m.ok) (hi : i < m.dur.length) (hN : m.puts.length * 72 ≤ 140737488355328) :
    Calls Tryz.prog 255 #[.pointer (some ⟨p, 0, none⟩), .int .i64 i] w fun e w' => e = .returned (.agg (bcells (m.read i)).toArray) ∧ Keeps (fun _ => False) w w' := by
  obtain ⟨vd, vp, hb, hS, hd, hp⟩ := hD
  obtain ⟨g, cap, rfl, hcap, _, hgl, _, _⟩ := hd.open (by omega)
  have hc := cell_of_heap (o := 0) hb
  have hc1 := cell_of_heap (o := 1) hb
  simp at hc hc1
  have hn := hm.len.2
  have hpl := lt_of_heap hb
  have hp0 := hp
  obtain ⟨ap, cp, rfl, hcp⟩ := hp.len
  have hpc : ∀ (k : Nat) (x : Nat × ByteArray), m.puts[k]? = some x → ∃ gp, ap = some ⟨gp, 0, none⟩ ∧ gp < w.heap.size ∧ w.cell? ⟨gp, k * 65, none⟩ = some (.int .i64 (x.1 : Int)) ∧ w.rangeAt gp (k * 65 + 1) (bcells x.2) := by
    intro k x hk
    have hkl := (List.getElem?_eq_some_iff.1 hk).1
    obtain ⟨gp, cap', hv, _, _, hgpl, _, _⟩ := hp.open (by omega)
    cases hv
    obtain ⟨q1, q2, _⟩ := put_range hp (fun x hx => (hm.puts x hx).2) hk
    exact ⟨gp, rfl, hgpl, q1, q2⟩
  have hds : m.dur[i]? = some (m.dur.getD i ByteArray.empty) := by simp [List.getD, hi]
  have hdr := dur_range hd (fun s hs => hm.dur s hs) hds
  have hsz : (m.dur.getD i ByteArray.empty).size = 64 := hm.dur _ (List.mem_of_getElem? hds)
  have hps : ∀ (k : Nat) (x : Nat × ByteArray), m.puts[k]? = some x → x.2.size = 64 := fun k x hk => (hm.puts x (List.mem_of_getElem? hk)).2
  have HP := hide hps
  have HC := hide hpc
  have HD := hide hds
  have HM := hide hsz
  have HR : Hid (m.read i = lastPut m.puts i (m.dur.getD i ByteArray.empty)) := rfl
  clear hps hpc hds hsz hp hp0 hd hb hm HD
  generalize m.dur.getD i ByteArray.empty = s0 at *
  have hc' : (w.alloc (.cells zrow 305)).cell? ⟨p, 0, none⟩ = _ := (World.cell?_alloc_lt _ _ _ hpl).trans hc
  have hc1' : (w.alloc (.cells zrow 305)).cell? ⟨p, 1, none⟩ = _ := (World.cell?_alloc_lt _ _ _ hpl).trans hc1
  go_enter Tryz.func255, Tryz.ntmps255
  go_wp2
  go_loop [5] (fun k => ∃ j : Nat, j ≤ m.puts.length ∧ k = .int .i64 ((j : Int) - 1) ∧ ∀ (l : Nat) (x : Nat × ByteArray), j ≤ l → m.puts[l]? = some x → x.1 ≠ i) (fun k => (intOf k + 1).toNat)
  case atStart => exact ⟨m.puts.length, Nat.le_refl _, rfl, fun l x hl hx => absurd (List.getElem?_eq_some_iff.1 hx).1 (by omega)⟩
  case round =>
    obtain ⟨j, hj, rfl, hno⟩ := hrel
    have HN := hide hno
    clear hno
    by_cases hlt : 0 < j
    · obtain ⟨k, rfl⟩ : ∃ k, j = k + 1 := ⟨j - 1, by omega⟩
      obtain ⟨x, hx⟩ : ∃ x, m.puts[k]? = some x := ⟨_, List.getElem?_eq_getElem (by omega)⟩
      obtain ⟨gp, rfl, hgpl, k0, k1⟩ := unhide HC k x hx
      have HX := hide hx
      clear hx
      obtain ⟨x1, x2⟩ := x
      simp only at k0 k1
      have k0' : (w.alloc (.cells zrow 305)).cell? ⟨gp, k * 65, none⟩ = _ := (World.cell?_alloc_lt _ _ _ hgpl).trans k0
      have e1 : ((k + 1 : Nat) : Int) - 1 = (k : Int) := by omega
      rw [e1]
      clear e1
      by_cases he : x1 = i
      · have hb : ((x1 : Int) == (i : Int)) = true := by simp [he]
        have hs := unhide HP k _ (unhide HX)
        have hl : (bcells x2).length = 64 := by rw [bcells_length]; exact hs
        have hld := run_secLoad (w.alloc (.cells zrow 305)) gp (k * 65 + 1) (bcells x2) (World.rangeAt_alloc k1 _) hl
        have hst := run_secStore w zrow (bcells x2).toArray zrow_size (by simp [hl]) (bcells_all _)
        go_wp2
        refine bodyPost_ret (v := .agg (bcells x2).toArray) (current_ret _ w _ (by simp [hl]) rfl) rfl ⟨ret_agg ?_, (Keeps.refl _ _).alloc _⟩
        rw [unhide HR, lastPut_drop m.puts i s0 k (by omega) (fun l y hl hy => unhide HN l y (by omega) hy) (x1, x2) (unhide HX) he]
      · have hb : ((x1 : Int) == (i : Int)) = false := by simp; omega
        go_wp2
        go_round
        case rel =>
          refine ⟨k, by omega, by go_num, fun l y hl hy => ?_⟩
          by_cases e : l = k
          · subst e; rw [unhide HX] at hy; cases hy; exact he
          · exact unhide HN l y (by omega) hy
        case measure => simp [intOf]
    · have hj0 : j = 0 := by omega
      subst hj0
      have hl : (bcells s0).length = 64 := by rw [bcells_length]; exact unhide HM
      have hld := run_secLoad (w.alloc (.cells zrow 305)) g (i * 64) _ (World.rangeAt_alloc hdr _) hl
      have hst := run_secStore w zrow (bcells s0).toArray zrow_size (by simp [hl]) (bcells_all _)
      go_wp2
      refine bodyPost_ret (v := .agg (bcells s0).toArray) (current_ret _ w _ (by simp [hl]) rfl) rfl ⟨ret_agg ?_, (Keeps.refl _ _).alloc _⟩
      rw [unhide HR, lastPut_none m.puts i s0 (fun l y hy => unhide HN l y (Nat.zero_le _) hy)]

set_option maxRecDepth 100000 in
set_option maxHeartbeats 400000 in
theorem dRead_no (S : Nat → Prop) (p : Nat) (m : DM) (i : Int) (w : World) (hD : PDisk S w p m) (hm : m.ok) (h : i < 0 ∨ (m.dur.length : Int) ≤ i) :
    Calls Tryz.prog 184 #[.pointer (some ⟨p, 0, none⟩), .int .i64 i] w fun e w' => e = .returned (.tuple #[.slice none 0 0, .int .i64 1]) ∧ w' = w := by
  obtain ⟨vd, vp, hb, hS, hd, hp⟩ := hD
  obtain ⟨ad, cd, rfl, hcap⟩ := hd.len
  have hc := cell_of_heap (o := 0) hb
  simp at hc
  have hn := hm.len.2
  clear hd hp hm hb
  generalize m.dur.length = n at *
  go_enter Tryz.func184, Tryz.ntmps184
  go_wp2_with (go_at_call 254; refine (has_no p n cd ad i _ hc h (by omega)).mono ?_; rintro e w' ⟨rfl, rfl⟩)
  go_ret2
  exact ⟨rfl, rfl⟩

theorem lastPut_size (l : List (Nat × ByteArray)) (i : Nat) : ∀ s, s.size = 64 → (∀ x ∈ l, x.2.size = 64) → (lastPut l i s).size = 64 := by
  induction l with
  | nil => intro s h _; exact h
  | cons y d ih =>
    intro s hs hl
    show (lastPut d i (if y.1 = i then y.2 else s)).size = 64
    refine ih _ ?_ (fun x hx => hl x (by simp [hx]))
    split
    · exact hl y (by simp)
    · exact hs
theorem DM.read_size {m : DM} (hm : m.ok) {i : Nat} (hi : i < m.dur.length) : (m.read i).size = 64 := by
  refine lastPut_size _ _ _ ?_ (fun x hx => (hm.puts x hx).2)
  have hds : m.dur[i]? = some (m.dur.getD i ByteArray.empty) := by simp [List.getD, hi]
  exact hm.dur _ (List.mem_of_getElem? hds)

set_option maxRecDepth 100000 in
set_option maxHeartbeats 400000 in
theorem dRead_yes (S : Nat → Prop) (p : Nat) (m : DM) (i : Nat) (w : World) (hD : PDisk S w p m) (hm : m.ok) (hi : i < m.dur.length) (hN : m.puts.length * 72 ≤ 140737488355328) :
    Calls Tryz.prog 184 #[.pointer (some ⟨p, 0, none⟩), .int .i64 i] w fun e w' => ∃ g, e = .returned (.tuple #[.slice (some ⟨g, 0, none⟩) 64 64, .int .i64 0]) ∧ w.heap.size ≤ g ∧
      w'.heap[g]? = some (.cells (bcells (m.read i)).toArray 305 (0, 0)) ∧ Keeps (fun _ => False) w w' := by
  have hD0 := hD
  obtain ⟨vd, vp, hb, hS, hd, hp⟩ := hD
  obtain ⟨ad, cd, rfl, hcap⟩ := hd.len
  have hc := cell_of_heap (o := 0) hb
  simp at hc
  have hn := hm.len.2
  have hl : (bcells (m.read i)).length = 64 := by rw [bcells_length]; exact DM.read_size hm hi
  have HD := hide hD0
  clear hD0 hd hp hb
  have hst := fun W => run_secStore W zrow (bcells (m.read i)).toArray zrow_size (by simp [hl]) (bcells_all _)
  go_enter Tryz.func184, Tryz.ntmps184
  go_wp2_with (first | (go_at_call 254; refine (has_yes p m.dur.length cd ad i _ hc hi (by omega)).mono ?_; rintro e w' ⟨rfl, rfl⟩) | (go_at_call 255; refine (current_any S p m i _ (unhide HD) hm hi hN).mono ?_; rintro e w1 ⟨rfl, hk⟩))
  go_ret2
  exact ⟨w1.heap.size, rfl, hk.size, heap_alloc_last w1 _, hk.alloc _⟩

end Go.Proofs.YthbmmbgkchiajaaGreat
