
/- The configurations that come in, opened. -/
import Derived.Test.YthbmmbgkchiajaaGreatOpen
import Derived.Test.YthbmmbgkchiajaaGreatCStep
namespace Go.Proofs.YthbmmbgkchiajaaGreat
open Go.RowKit

theorem cells_cfg : Tryz.prog.cellsOf 29 = 5 := by kernel_rfl
theorem bytes_cfg : Tryz.prog.bytesOf 29 = 40 := by kernel_rfl

theorem list5 {α : Type} {l : List α} (h : l.length = 5) : ∃ a b c d e, l = [a, b, c, d, e] := by
  match l, h with
  | [a, b, c, d, e], _ => exact ⟨a, b, c, d, e, rfl⟩

section
variable {H : Type} {enc : TypeId × Value → H} {W : World} {base : Nat} {held : Bool}

theorem cfg_at {n i gs os : Nat} {cs : List Value} {x : DataW H × List MemPlace} (hc : W.cells? base ((⟨gs, os, none⟩ : Addr).add (i * 5)) 5 = some cs) (h : DataW.trod enc Tryz.prog W base (fun _ => true) held n 29 cs = some x) : CfgAt W.heap.size W (some ⟨gs, os, none⟩) i := by
  obtain ⟨xs, q, rfl, rfl, hl, hlen, hf⟩ := DataW.trod_struct Tryz.underlying29 h
  obtain ⟨c0, c1, c2, c3, c4, rfl⟩ := list5 (hl.trans cells_cfg)
  obtain ⟨x0, x1, x2, x3, x4, rfl⟩ := list5 hlen
  have f0 : DataW.trod enc Tryz.prog W base (fun _ => true) held q 3 [c0] = some x0 := by simpa [cells_int] using hf 0 _ rfl
  have f1 : DataW.trod enc Tryz.prog W base (fun _ => true) held q 3 [c1] = some x1 := by simpa [cells_int] using hf 1 _ rfl
  have f2 : DataW.trod enc Tryz.prog W base (fun _ => true) held q 3 [c2] = some x2 := by simpa [cells_int] using hf 2 _ rfl
  have f3 : DataW.trod enc Tryz.prog W base (fun _ => true) held q 3 [c3] = some x3 := by simpa [cells_int] using hf 3 _ rfl
  have f4 : DataW.trod enc Tryz.prog W base (fun _ => true) held q 3 [c4] = some x4 := by simpa [cells_int] using hf 4 _ rfl
  clear hf
  obtain ⟨k, hk, _, _⟩ := DataW.trod_int Tryz.underlying3 f0
  obtain ⟨a, ha, _, _⟩ := DataW.trod_int Tryz.underlying3 f1
  obtain ⟨b, hb, _, _⟩ := DataW.trod_int Tryz.underlying3 f2
  obtain ⟨c, hcc, _, _⟩ := DataW.trod_int Tryz.underlying3 f3
  obtain ⟨d, hd, _, _⟩ := DataW.trod_int Tryz.underlying3 f4
  obtain ⟨_, _, hcell⟩ := World.cells?_some hc
  rw [add_none] at hcell
  simp only [add_none] at hcell
  simp only [List.cons.injEq, and_true] at hk ha hb hcc hd
  subst hk ha hb hcc hd
  have e0 := hcell 0 (by omega)
  exact ⟨gs, os, k, a, b, c, d, rfl, block_of_cell e0, e0, hcell 1 (by omega), hcell 2 (by omega), hcell 3 (by omega), hcell 4 (by omega)⟩

/-- What the player is told of the configurations. -/
theorem configs_at {n : Nat} {ao : Option Addr} {len cap : Nat} {d : DataW H} {pl : List MemPlace} (h : DataW.trod enc Tryz.prog W base (fun _ => true) held n 22 [.slice ao len cap] = some (d, pl)) (hw : ∀ m ∈ d.weights Tryz.prog 22, m ≤ reachBytes) :
    len ≤ cap ∧ len ≤ 9223372036854775807 ∧ ∀ i, i < len → CfgAt W.heap.size W ao i := by
  rcases Go.Deep.open_slice Tryz.underlying22 h with ⟨h0, _⟩ | ⟨a, len', cap', m, q, D, Pl, h0, _, hl, _, hm, hx, hc⟩
  · simp only [List.cons.injEq, Value.slice.injEq, and_true] at h0
    obtain ⟨rfl, rfl, rfl⟩ := h0
    exact ⟨Nat.le_refl _, by omega, fun i hi => absurd hi (Nat.not_lt_zero _)⟩
  · simp only [List.cons.injEq, Value.slice.injEq, and_true] at h0
    obtain ⟨rfl, rfl, rfl⟩ := h0
    have hd : d = .slice ((List.range len).map D) ((List.range (m - len)).map fun j => D (len + j)) := congrArg Prod.fst hx
    subst hd
    clear hx h
    rw [cells_cfg] at hc
    have hwl := hw ((((List.range len).map D).length + ((List.range (m - len)).map fun j => D (len + j)).length) * Tryz.prog.bytesOf 29) (by simp only [DataW.weights, Tryz.underlying22]; exact List.mem_cons_self)
    rw [bytes_cfg, reach_eq, List.length_map, List.length_range] at hwl
    have hml : len ≤ m := by rw [hm]; simpa using hl
    refine ⟨hl, by omega, fun i hi => ?_⟩
    obtain ⟨b, o, sp⟩ := a
    have hsp : sp = none := by
      obtain ⟨cs0, z0, _⟩ := hc 0 (by omega)
      obtain ⟨_, zl, z1⟩ := World.cells?_some z0
      obtain ⟨c0, _, _, _, _, rfl⟩ := list5 zl
      have := z1 0 (by omega)
      simpa [Addr.add] using World.cell?_spot (v := c0) this
    subst hsp
    obtain ⟨cs, z0, z1⟩ := hc i (by omega)
    exact cfg_at z0 z1

end
end Go.Proofs.YthbmmbgkchiajaaGreat
