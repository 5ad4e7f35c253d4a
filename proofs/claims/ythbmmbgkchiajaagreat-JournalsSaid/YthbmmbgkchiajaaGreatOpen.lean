
/- The script that comes in, opened: each of its operations is seven cells, whose readings give what the player asks. -/
import Derived.Test.YthbmmbgkchiajaaGreatTop
import Derived.Deep.Slices
import Derived.SizedLaws
import Derived.ChangeOld
namespace Go.Proofs.YthbmmbgkchiajaaGreat
open Go.RowKit

theorem reach_eq : reachBytes = 140737488351232 := rfl
theorem cells_int : Tryz.prog.cellsOf 3 = 1 := by kernel_rfl
theorem cells_bool : Tryz.prog.cellsOf 4 = 1 := by kernel_rfl
theorem cells_string : Tryz.prog.cellsOf 9 = 1 := by kernel_rfl
theorem cells_bools : Tryz.prog.cellsOf 60 = 1 := by kernel_rfl
theorem cells_ints : Tryz.prog.cellsOf 25 = 1 := by kernel_rfl
theorem cells_op : Tryz.prog.cellsOf 81 = 7 := by kernel_rfl
theorem bytes_bool : Tryz.prog.bytesOf 4 = 1 := by kernel_rfl
theorem bytes_op : Tryz.prog.bytesOf 81 = 96 := by kernel_rfl

theorem list7 {α : Type} {l : List α} (h : l.length = 7) : ∃ a b c d e f g, l = [a, b, c, d, e, f, g] := by
  match l, h with
  | [a, b, c, d, e, f, g], _ => exact ⟨a, b, c, d, e, f, g, rfl⟩

theorem block_of_cell {w : World} {a : Addr} {v : Value} (h : w.cell? a = some v) : a.block < w.heap.size :=
  World.cells?_block (base := 0) (ChangeShapes.cells?_one (Nat.zero_le _) h) Nat.one_pos

theorem add_none (b o n : Nat) : (⟨b, o, none⟩ : Addr).add n = ⟨b, o + n, none⟩ := by
  unfold Addr.add
  by_cases h : n = 0
  · subst h; rfl
  · rw [if_neg h]

theorem of_wf {n : Int} (h : (Lit.int .i64 n).wf = true) : -9223372036854775808 ≤ n ∧ n ≤ 9223372036854775807 := by
  have h' : (decide ((-9223372036854775808 : Int) ≤ n) && decide (n ≤ 9223372036854775807)) = true := h
  rw [Bool.and_eq_true, decide_eq_true_eq, decide_eq_true_eq] at h'
  exact h'

theorem weightsAll_in {H : Type} {P : Program} {e : TypeId} : ∀ {l : List (DataW H)} {d : DataW H}, d ∈ l → ∀ n ∈ d.weights P e, n ∈ DataW.weightsAll P e l
  | d' :: r, d, hd, n, hn => by
    simp only [DataW.weightsAll, List.mem_append]
    rcases List.mem_cons.1 hd with rfl | h
    · exact Or.inl hn
    · exact Or.inr (weightsAll_in h n hn)

section
variable {H : Type} {enc : TypeId × Value → H} {W : World} {base : Nat} {held : Bool}

theorem keep_at {n : Nat} {v : Value} {x : DataW H × List MemPlace} (h : DataW.trod enc Tryz.prog W base (fun _ => true) held n 60 [v] = some x) (hw : ∀ m ∈ x.1.weights Tryz.prog 60, m ≤ reachBytes) :
    ∃ ka kn kc bs, v = .slice ka kn kc ∧ bs.length ≤ 140737488351232 ∧ KeepArg W.heap.size W v bs := by
  rcases Go.Deep.open_slice1 Tryz.underlying60 cells_bool h with ⟨h0, _⟩ | ⟨a, len, cap, m, q, V, D, Pl, h0, _, hl, _, hm, rfl, hc⟩
  · obtain rfl : v = .slice none 0 0 := by simpa using h0
    exact ⟨none, 0, 0, [], rfl, by simp, .inl ⟨rfl, rfl⟩⟩
  · obtain rfl : v = .slice (some a) len cap := by simpa using h0
    obtain ⟨B, hB⟩ := Go.Deep.choose_lt (α := Bool) (p := fun i b => W.cell? (a.add i) = some (.bool b)) (n := len) (fun i hi => by
      obtain ⟨c1, c2⟩ := hc i (by rw [hm]; simp; omega)
      obtain ⟨b, hb, _⟩ := DataW.trod_bool Tryz.underlying4 c2
      obtain hb : V i = .bool b := by simpa using hb
      exact ⟨b, c1.trans (by rw [hb])⟩)
    have hlen : len ≤ 140737488351232 := by
      have := hw ((((List.range len).map D).length + ((List.range (m - len)).map fun j => D (len + j)).length) * Tryz.prog.bytesOf 4) (by simp only [DataW.weights, Tryz.underlying60]; exact List.mem_cons_self)
      rw [bytes_bool, reach_eq, List.length_map, List.length_range] at this
      omega
    refine ⟨some a, len, cap, (List.range len).map B, rfl, by simpa using hlen, .inr ⟨a, cap, by simp, by simpa using hl, fun j hj => ?_⟩⟩
    have hj' : j < len := by simpa using hj
    obtain ⟨b, o, sp⟩ := a
    have h00 := hB 0 (by omega)
    have hsp : sp = none := by simpa [Addr.add] using World.cell?_spot h00
    subst hsp
    have h1 := hB j hj'
    refine ⟨b, o, rfl, block_of_cell h00, ?_⟩
    rw [add_none] at h1
    rw [h1]
    simp [List.getD, hj']

theorem op_at {n i gs os : Nat} {cs : List Value} {x : DataW H × List MemPlace} (hc : W.cells? base ((⟨gs, os, none⟩ : Addr).add (i * 7)) 7 = some cs) (h : DataW.trod enc Tryz.prog W base (fun _ => true) held n 81 cs = some x)
    (hw : ∀ m ∈ x.1.weights Tryz.prog 81, m ≤ reachBytes) : OpAt W.heap.size W (some ⟨gs, os, none⟩) i := by
  obtain ⟨xs, q, rfl, rfl, hl, hlen, hf⟩ := DataW.trod_struct Tryz.underlying81 h
  obtain ⟨c0, c1, c2, c3, c4, c5, c6, rfl⟩ := list7 (hl.trans cells_op)
  obtain ⟨x0, x1, x2, x3, x4, x5, x6, rfl⟩ := list7 hlen
  have f0 : DataW.trod enc Tryz.prog W base (fun _ => true) held q 3 [c0] = some x0 := by simpa [cells_int] using hf 0 _ rfl
  have f1 : DataW.trod enc Tryz.prog W base (fun _ => true) held q 3 [c1] = some x1 := by simpa [cells_int] using hf 1 _ rfl
  have f2 : DataW.trod enc Tryz.prog W base (fun _ => true) held q 3 [c2] = some x2 := by simpa [cells_int] using hf 2 _ rfl
  have f3 : DataW.trod enc Tryz.prog W base (fun _ => true) held q 3 [c3] = some x3 := by simpa [cells_int] using hf 3 _ rfl
  have f4 : DataW.trod enc Tryz.prog W base (fun _ => true) held q 9 [c4] = some x4 := by simpa [cells_string] using hf 4 _ rfl
  have f5 : DataW.trod enc Tryz.prog W base (fun _ => true) held q 60 [c5] = some x5 := by simpa [cells_bools] using hf 5 _ rfl
  have f6 : DataW.trod enc Tryz.prog W base (fun _ => true) held q 25 [c6] = some x6 := by simpa [cells_ints] using hf 6 _ rfl
  have hwe : ∀ m ∈ DataW.weightsEach Tryz.prog [3, 3, 3, 3, 9, 60, 25] [x0.1, x1.1, x2.1, x3.1, x4.1, x5.1, x6.1], m ≤ reachBytes := fun m hm => hw m (by simp only [DataW.weights, Tryz.underlying81]; exact hm)
  clear hw hf
  obtain ⟨k, hk, _, _⟩ := DataW.trod_int Tryz.underlying3 f0
  obtain ⟨a, ha, _, wa⟩ := DataW.trod_int Tryz.underlying3 f1
  obtain ⟨b, hb, _, wb⟩ := DataW.trod_int Tryz.underlying3 f2
  obtain ⟨c, hcc, _, wc⟩ := DataW.trod_int Tryz.underlying3 f3
  obtain ⟨s, hs, hxs, _⟩ := DataW.trod_string Tryz.underlying9 f4
  obtain ⟨ka, kn, kc, bs, hv, hbl, hK⟩ := keep_at f5 (fun m hm => hwe m (DataW.weights_mem_each (j := 5) rfl rfl m hm))
  obtain ⟨pa, pn, pc, hp⟩ : ∃ pa pn pc, c6 = .slice pa pn pc := by
    rcases DataW.trod_slice Tryz.underlying25 f6 with ⟨e, _⟩ | ⟨pa, pn, pc, _, _, _, _, e, _⟩
    · exact ⟨none, 0, 0, by simpa using e⟩
    · exact ⟨some pa, pn, pc, by simpa using e⟩
  have hsz : s.size ≤ 140737488351232 := by
    have := hwe s.data.toList.length (DataW.weights_mem_each (j := 4) (t := 9) (d := x4.1) rfl rfl _ (by rw [hxs]; simp [DataW.weights]))
    rw [reach_eq] at this
    simpa using this
  obtain ⟨_, _, hcell⟩ := World.cells?_some hc
  rw [add_none] at hcell
  simp only [add_none] at hcell
  simp only [List.cons.injEq, and_true] at hk ha hb hcc hs
  subst hk ha hb hcc hs hv hp
  have e0 := hcell 0 (by omega)
  have hwa := of_wf wa
  have hwb := of_wf wb
  have hwc := of_wf wc
  exact ⟨gs, os, k, a, b, c, s, ka, kn, kc, pa, pn, pc, bs, rfl, block_of_cell e0, e0, hcell 1 (by omega), hcell 2 (by omega), hcell 3 (by omega), hcell 4 (by omega), hcell 5 (by omega), hcell 6 (by omega), hwa.1, hwa.2, ⟨hwb.1, hwb.2, hwc.1, hwc.2, hsz, hbl, hK⟩⟩

/-- What the player is told of the script. -/
theorem script_at {n : Nat} {ao : Option Addr} {len cap : Nat} {d : DataW H} {pl : List MemPlace} (h : DataW.trod enc Tryz.prog W base (fun _ => true) held n 23 [.slice ao len cap] = some (d, pl)) (hw : ∀ m ∈ d.weights Tryz.prog 23, m ≤ reachBytes) :
    len ≤ cap ∧ Few len ∧ ∀ i, i < len → OpAt W.heap.size W ao i := by
  rcases Go.Deep.open_slice Tryz.underlying23 h with ⟨h0, _⟩ | ⟨a, len', cap', m, q, D, Pl, h0, _, hl, _, hm, hx, hc⟩
  · simp only [List.cons.injEq, Value.slice.injEq, and_true] at h0
    obtain ⟨rfl, rfl, rfl⟩ := h0
    exact ⟨Nat.le_refl _, by simp [Few], fun i hi => absurd hi (Nat.not_lt_zero _)⟩
  · simp only [List.cons.injEq, Value.slice.injEq, and_true] at h0
    obtain ⟨rfl, rfl, rfl⟩ := h0
    have hd : d = .slice ((List.range len).map D) ((List.range (m - len)).map fun j => D (len + j)) := congrArg Prod.fst hx
    subst hd
    clear hx h
    rw [cells_op] at hc
    have hwl := hw ((((List.range len).map D).length + ((List.range (m - len)).map fun j => D (len + j)).length) * Tryz.prog.bytesOf 81) (by simp only [DataW.weights, Tryz.underlying23]; exact List.mem_cons_self)
    rw [bytes_op, reach_eq, List.length_map, List.length_range] at hwl
    have hml : len ≤ m := by rw [hm]; simpa using hl
    refine ⟨hl, Nat.le_trans (Nat.mul_le_mul_right 96 (Nat.le_add_right _ _)) hwl, fun i hi => ?_⟩
    obtain ⟨b, o, sp⟩ := a
    have hsp : sp = none := by
      obtain ⟨cs0, z0, _⟩ := hc 0 (by omega)
      obtain ⟨_, zl, z1⟩ := World.cells?_some z0
      obtain ⟨c0, _, _, _, _, _, _, rfl⟩ := list7 zl
      have := z1 0 (by omega)
      simpa [Addr.add] using World.cell?_spot (v := c0) this
    subst hsp
    obtain ⟨cs, z0, z1⟩ := hc i (by omega)
    refine op_at z0 z1 (fun m' hm' => hw m' ?_)
    simp only [DataW.weights, Tryz.underlying23, List.mem_cons, List.mem_append]
    exact Or.inr (Or.inl (weightsAll_in (List.mem_map.2 ⟨i, List.mem_range.2 hi, rfl⟩) _ hm'))

end
end Go.Proofs.YthbmmbgkchiajaaGreat
