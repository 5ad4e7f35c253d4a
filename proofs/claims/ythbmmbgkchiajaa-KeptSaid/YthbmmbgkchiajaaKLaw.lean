
/- The statement on Kept: the steps that come in, opened; the walk lifted to the row. -/
import Derived.Test.YthbmmbgkchiajaaKWalk
import Derived.Deep.Slices
import Derived.SizedLaws
import Derived.ChangeOld
import Derived.ProofKit
import Derived.OpenShut
import Derived.ShutString
import Derived.Below
namespace Go.Proofs.Ythbmmbgkchiajaa
open Go.RowKit

theorem reach_eq : reachBytes = 140737488351232 := rfl
theorem cells_int : Try.prog.cellsOf 3 = 1 := by kernel_rfl
theorem cells_bool : Try.prog.cellsOf 4 = 1 := by kernel_rfl
theorem cells_string : Try.prog.cellsOf 9 = 1 := by kernel_rfl
theorem cells_bools : Try.prog.cellsOf 35 = 1 := by kernel_rfl
theorem cells_note : Try.prog.cellsOf 37 = 4 := by kernel_rfl
theorem bytes_bool : Try.prog.bytesOf 4 = 1 := by kernel_rfl
theorem bytes_note : Try.prog.bytesOf 37 = 56 := by kernel_rfl

theorem list4 {α : Type} {l : List α} (h : l.length = 4) : ∃ a b c d, l = [a, b, c, d] := by
  match l, h with
  | [a, b, c, d], _ => exact ⟨a, b, c, d, rfl⟩

theorem block_of_cell {w : World} {a : Addr} {v : Value} (h : w.cell? a = some v) : a.block < w.heap.size :=
  World.cells?_block (base := 0) (ChangeShapes.cells?_one (Nat.zero_le _) h) Nat.one_pos

theorem add_none (b o n : Nat) : (⟨b, o, none⟩ : Addr).add n = ⟨b, o + n, none⟩ := by
  unfold Addr.add
  by_cases h : n = 0
  · subst h; rfl
  · rw [if_neg h]

theorem of_wf {n : Int} (h : (Lit.int .i64 n).wf = true) : -9223372036854775808 ≤ n ∧ n ≤ 9223372036854775807 := by
  have h' : (decide ((-9223372036854775808 : Int) ≤ n) && decide (n ≤ 9223372036854775807)) = true := h
  rw [Bool.and_eq_true, decide_eq_true_eq, decide_eq_true_eq] at h'
  exact h'

theorem weightsAll_in {H : Type} {P : Program} {e : TypeId} : ∀ {l : List (DataW H)} {d : DataW H}, d ∈ l → ∀ n ∈ d.weights P e, n ∈ DataW.weightsAll P e l
  | d' :: r, d, hd, n, hn => by
    simp only [DataW.weightsAll, List.mem_append]
    rcases List.mem_cons.1 hd with rfl | h
    · exact Or.inl hn
    · exact Or.inr (weightsAll_in h n hn)

section
variable {H : Type} {enc : TypeId × Value → H} {W : World} {base : Nat} {held : Bool}

theorem keep_at {n : Nat} {v : Value} {x : DataW H × List MemPlace} (h : DataW.trod enc Try.prog W base (fun _ => true) held n 35 [v] = some x) (hw : ∀ m ∈ x.1.weights Try.prog 35, m ≤ reachBytes) :
    ∃ ka kc bs, v = .slice ka bs.length kc ∧ bs.length ≤ 140737488351232 ∧ bs.length ≤ kc ∧ KeepA W.heap.size W ka bs := by
  rcases Go.Deep.open_slice1 Try.underlying35 cells_bool h with ⟨h0, _⟩ | ⟨a, len, cap, m, q, V, D, Pl, h0, _, hl, _, hm, rfl, hc⟩
  · obtain rfl : v = .slice none 0 0 := by simpa using h0
    exact ⟨none, 0, [], rfl, by simp, by simp, fun j hj => by simp at hj⟩
  · obtain rfl : v = .slice (some a) len cap := by simpa using h0
    obtain ⟨B, hB⟩ := Go.Deep.choose_lt (α := Bool) (p := fun i b => W.cell? (a.add i) = some (.bool b)) (n := len) (fun i hi => by
      obtain ⟨c1, c2⟩ := hc i (by rw [hm]; simp; omega)
      obtain ⟨b, hb, _⟩ := DataW.trod_bool Try.underlying4 c2
      obtain hb : V i = .bool b := by simpa using hb
      exact ⟨b, c1.trans (by rw [hb])⟩)
    have hlen : len ≤ 140737488351232 := by
      have := hw ((((List.range len).map D).length + ((List.range (m - len)).map fun j => D (len + j)).length) * Try.prog.bytesOf 4) (by simp only [DataW.weights, Try.underlying35]; exact List.mem_cons_self)
      rw [bytes_bool, reach_eq, List.length_map, List.length_range] at this
      omega
    refine ⟨some a, cap, (List.range len).map B, by simp, by simpa using hlen, by simpa using hl, fun j hj => ?_⟩
    have hj' : j < len := by simpa using hj
    obtain ⟨b, o, sp⟩ := a
    have h00 := hB 0 (by omega)
    have hsp : sp = none := by simpa [Addr.add] using World.cell?_spot h00
    subst hsp
    have h1 := hB j hj'
    refine ⟨b, o, rfl, block_of_cell h00, ?_⟩
    rw [add_none] at h1
    rw [h1]
    simp [List.getD, hj']

theorem note_at {n i gs os : Nat} {cs : List Value} {x : DataW H × List MemPlace} (hc : W.cells? base ((⟨gs, os, none⟩ : Addr).add (i * 4)) 4 = some cs) (h : DataW.trod enc Try.prog W base (fun _ => true) held n 37 cs = some x)
    (hw : ∀ m ∈ x.1.weights Try.prog 37, m ≤ reachBytes) : NoteAt W.heap.size W (some ⟨gs, os, none⟩) i := by
  obtain ⟨xs, q, rfl, rfl, hl, hlen, hf⟩ := DataW.trod_struct Try.underlying37 h
  obtain ⟨c0, c1, c2, c3, rfl⟩ := list4 (hl.trans cells_note)
  obtain ⟨x0, x1, x2, x3, rfl⟩ := list4 hlen
  have f0 : DataW.trod enc Try.prog W base (fun _ => true) held q 3 [c0] = some x0 := by simpa [cells_int] using hf 0 _ rfl
  have f1 : DataW.trod enc Try.prog W base (fun _ => true) held q 3 [c1] = some x1 := by simpa [cells_int] using hf 1 _ rfl
  have f2 : DataW.trod enc Try.prog W base (fun _ => true) held q 9 [c2] = some x2 := by simpa [cells_string] using hf 2 _ rfl
  have f3 : DataW.trod enc Try.prog W base (fun _ => true) held q 35 [c3] = some x3 := by simpa [cells_bools] using hf 3 _ rfl
  have hwe : ∀ m ∈ DataW.weightsEach Try.prog [3, 3, 9, 35] [x0.1, x1.1, x2.1, x3.1], m ≤ reachBytes := fun m hm => hw m (by simp only [DataW.weights, Try.underlying37]; exact hm)
  clear hw hf
  obtain ⟨k, hk, _, _⟩ := DataW.trod_int Try.underlying3 f0
  obtain ⟨a, ha, _, wa⟩ := DataW.trod_int Try.underlying3 f1
  obtain ⟨s, hs, hxs, _⟩ := DataW.trod_string Try.underlying9 f2
  obtain ⟨ka, kc, bs, hv, hbl, hbc, hK⟩ := keep_at f3 (fun m hm => hwe m (DataW.weights_mem_each (j := 3) rfl rfl m hm))
  have hsz : s.size ≤ 140737488351232 := by
    have := hwe s.data.toList.length (DataW.weights_mem_each (j := 2) (t := 9) (d := x2.1) rfl rfl _ (by rw [hxs]; simp [DataW.weights]))
    rw [reach_eq] at this
    simpa using this
  obtain ⟨_, _, hcell⟩ := World.cells?_some hc
  rw [add_none] at hcell
  simp only [add_none] at hcell
  simp only [List.cons.injEq, and_true] at hk ha hs
  subst hk ha hs hv
  have e0 := hcell 0 (by omega)
  have hwa := of_wf wa
  exact ⟨gs, os, k, a, s, ka, kc, bs, rfl, block_of_cell e0, e0, hcell 1 (by omega), hcell 2 (by omega), hcell 3 (by omega), hwa.1, hwa.2, hsz, hbl, hbc, hK⟩

/-- What the walk is told of the steps. -/
theorem steps_at {n : Nat} {ao : Option Addr} {len cap : Nat} {d : DataW H} {pl : List MemPlace} (h : DataW.trod enc Try.prog W base (fun _ => true) held n 22 [.slice ao len cap] = some (d, pl)) (hw : ∀ m ∈ d.weights Try.prog 22, m ≤ reachBytes) :
    len ≤ cap ∧ len * 56 ≤ 140737488351232 ∧ ∀ i, i < len → NoteAt W.heap.size W ao i := by
  rcases Go.Deep.open_slice Try.underlying22 h with ⟨h0, _⟩ | ⟨a, len', cap', m, q, D, Pl, h0, _, hl, _, hm, hx, hc⟩
  · simp only [List.cons.injEq, Value.slice.injEq, and_true] at h0
    obtain ⟨rfl, rfl, rfl⟩ := h0
    exact ⟨Nat.le_refl _, by simp, fun i hi => absurd hi (Nat.not_lt_zero _)⟩
  · simp only [List.cons.injEq, Value.slice.injEq, and_true] at h0
    obtain ⟨rfl, rfl, rfl⟩ := h0
    have hd : d = .slice ((List.range len).map D) ((List.range (m - len)).map fun j => D (len + j)) := congrArg Prod.fst hx
    subst hd
    clear hx h
    rw [cells_note] at hc
    have hwl := hw ((((List.range len).map D).length + ((List.range (m - len)).map fun j => D (len + j)).length) * Try.prog.bytesOf 37) (by simp only [DataW.weights, Try.underlying22]; exact List.mem_cons_self)
    rw [bytes_note, reach_eq, List.length_map, List.length_range] at hwl
    have hml : len ≤ m := by rw [hm]; simpa using hl
    refine ⟨hl, Nat.le_trans (Nat.mul_le_mul_right 56 (Nat.le_add_right _ _)) hwl, fun i hi => ?_⟩
    obtain ⟨b, o, sp⟩ := a
    have hsp : sp = none := by
      obtain ⟨cs0, z0, _⟩ := hc 0 (by omega)
      obtain ⟨_, zl, z1⟩ := World.cells?_some z0
      obtain ⟨c0, _, _, _, rfl⟩ := list4 zl
      have := z1 0 (by omega)
      simpa [Addr.add] using World.cell?_spot (v := c0) this
    subst hsp
    obtain ⟨cs, z0, z1⟩ := hc i (by omega)
    refine note_at z0 z1 (fun m' hm' => hw m' ?_)
    simp only [DataW.weights, Try.underlying22, List.mem_cons, List.mem_append]
    exact Or.inr (Or.inl (weightsAll_in (List.mem_map.2 ⟨i, List.mem_range.2 hi, rfl⟩) _ hm'))

theorem int_at {n : Nat} {v : Value} {d : DataW H} {pl : List MemPlace} (h : DataW.trod enc Try.prog W base (fun _ => true) held n 3 [v] = some (d, pl)) : ∃ x : Int, v = .int .i64 x ∧ -9223372036854775808 ≤ x ∧ x ≤ 9223372036854775807 := by
  obtain ⟨k, hk, _, wk⟩ := DataW.trod_int Try.underlying3 h
  simp only [List.cons.injEq, and_true] at hk
  exact ⟨k, hk, (of_wf wk).1, (of_wf wk).2⟩

end
open Go.ChangeShapes Go.WideShapes Go.ChangeAt

theorem own : ownKnob Try.prog.godebug = none := by kernel_rfl
theorem laidOut : laidOutB Try.prog = true := by kernel_rfl

set_option maxRecDepth 100000 in
set_option maxHeartbeats 1600000 in
theorem kept_lifted (os : Os) (started : os.Started) (H : Type) (enc : TypeId × Value → H) :
    ReturnsInHanded {} Try.checked os 3 .any (Rows.keptSpec.pre6 enc Try.prog Try.f3 Rows.keptRow.domain false) (Rows.keptSpec.post enc Try.prog Try.f3 false true false false) := by
  refine returnsInHanded_of_change_sized (C := Try.checked) own started (by kernel_rfl) Try.func3
    (ChangeSpec.witness6 (enc := enc) (C := Try.checked) false ⟨#[], #[.int .i64 0, .int .i64 0, .slice none 0 0], []⟩ 8 (by kernel_rfl) (by kernel_rfl) (by kernel_rfl) (by kernel_rfl)) ?_
  intro W base args ds gs before hval0 hW _ hsz0 _
  have hsz : (DataW.weightsEach Try.prog (Try.f3.params.toList ++ Rows.keptSpec.plain.varTypes Try.prog) (ds ++ gs)).all (· ≤ reachBytes) = true := hsz0
  clear hsz0
  have hval : ∀ (j : Nat) t v, Try.f3.params[j]? = some t → args[j]? = some v → Value.okWide Try.prog W .any base t v := hval0
  have hW' := hW
  obtain ⟨p, q, hA0, hV, rfl, hfz, hnd⟩ := hW
  have hA : DataW.TrodAll enc Try.prog W 0 (fun _ => true) true Try.f3.params.toList args.toList ds p := hA0
  rw [Try.params3] at hA hval hsz
  obtain ⟨v0, vs0, d0, ds0, p0, q0, hargs, rfl, rfl, h0, r0⟩ := trodAll_cons hA
  obtain ⟨v1, vs1, d1, ds1, p1, q1, rfl, rfl, rfl, h1, r1⟩ := trodAll_cons r0
  obtain ⟨v2, vs2, d2, ds2, p2, q2, rfl, rfl, rfl, h2, r2⟩ := trodAll_cons r1
  obtain ⟨rfl, rfl, rfl⟩ := trodAll_nil r2
  obtain rfl : args = #[v0, v1, v2] := by cases args; simp_all
  obtain ⟨rfl, rfl⟩ := trodVars_none hV
  obtain ⟨y0, rfl⟩ := okWide_int Try.underlying3 (hval 0 3 v0 rfl rfl)
  obtain ⟨y1, rfl⟩ := okWide_int Try.underlying3 (hval 1 3 v1 rfl rfl)
  obtain ⟨a2, len2, cap2, rfl⟩ := okWide_slice Try.underlying22 (hval 2 22 v2 rfl rfl)
  have k0 := h0
  have k1 := h1
  have k2 := h2
  have lt0 : ∀ x ∈ p0, x.block < W.heap.size := by obtain ⟨m, hm⟩ := k0; exact DataW.trod_lt m _ _ _ hm
  have lt1 : ∀ x ∈ p1, x.block < W.heap.size := by obtain ⟨m, hm⟩ := k1; exact DataW.trod_lt m _ _ _ hm
  have lt2 : ∀ x ∈ p2, x.block < W.heap.size := by obtain ⟨m, hm⟩ := k2; exact DataW.trod_lt m _ _ _ hm
  obtain ⟨x0, hx0, b00, b01⟩ : ∃ x : Int, Value.int .i64 y0 = .int .i64 x ∧ -9223372036854775808 ≤ x ∧ x ≤ 9223372036854775807 := by
    obtain ⟨fuel, hf⟩ := h0
    exact int_at hf
  obtain ⟨x1, hx1, b10, b11⟩ : ∃ x : Int, Value.int .i64 y1 = .int .i64 x ∧ -9223372036854775808 ≤ x ∧ x ≤ 9223372036854775807 := by
    obtain ⟨fuel, hf⟩ := h1
    exact int_at hf
  cases hx0
  cases hx1
  have hS : len2 ≤ cap2 ∧ len2 * 56 ≤ 140737488351232 ∧ ∀ i, i < len2 → NoteAt W.heap.size W a2 i := by
    obtain ⟨fuel, hf⟩ := h2
    exact steps_at hf (fun m hm => of_decide_eq_true (List.all_eq_true.1 hsz _ (DataW.weights_mem_each (j := 2) (t := 22) (d := d2) rfl rfl m hm)))
  clear hA0 hval0 hsz
  refine (kept_any W y0 y1 a2 len2 cap2 b00 b01 b10 b11 hS.1 hS.2.1 hS.2.2).mono fun e W' ⟨he, hkk⟩ => ?_
  subst he
  have bel := hkk.below (Nat.le_refl _)
  exact ⟨_, rfl, _, _, _, [], _, [], hW', trodAll_mk1 (shut_bool Try.underlying4 _), (trodAll_cons_mk (Below.trod laidOut (by kernel_rfl) (of_decide_eq_true (by kernel_rfl)) k0 bel lt0) (trodAll_cons_mk (Below.trod laidOut (by kernel_rfl) (of_decide_eq_true (by kernel_rfl)) k1 bel lt1) (trodAll_cons_mk (Below.trod laidOut (by kernel_rfl) (of_decide_eq_true (by kernel_rfl)) k2 bel lt2) trodAll_mk0))), rfl, bel.frame _, fun h => by cases h⟩

theorem kept_over : Rows.keptRow.holds Try.pinned (OpenSpec.ofChange Rows.keptSpec) :=
  OpenClaim.holds_of_wide 3 Try.f3 rfl rfl rfl rfl rfl rfl rfl ⟨rfl, rfl, rfl, rfl, rfl⟩ rfl rfl rfl rfl rfl (by kernel_rfl) Try.func3 (by kernel_rfl)
    (of_decide_eq_true (by kernel_rfl)) (by unfold Func.isWrapper; first | (rw [if_pos (by decide +kernel)]; kernel_rfl) | (rw [if_neg (by decide +kernel)]; exact ⟨rfl, rfl⟩))
    (fun os started H enc _ => kept_lifted os started H enc)

/-- Kept answers true, whatever the input. -/
theorem kept_proved : Rows.KeptSaid := kept_over

end Go.Proofs.Ythbmmbgkchiajaa
