
/- Read, of the document. -/
import Derived.Test.YthbmmbgkchiajaaGreatRWrite
namespace Go.Proofs.YthbmmbgkchiajaaGreat
open Go.RowKit

theorem ret_str {s t : ByteArray} {n : Int} (h : s = t) : Ending.returned (.tuple #[.string s, .int .i64 n]) = .returned (.tuple #[.string t, .int .i64 n]) := by rw [h]

set_option maxRecDepth 100000 in
set_option maxHeartbeats 400000 in
theorem rRead_no (S : Nat → Prop) (p : Nat) (m : DM) (i : Int) (w : World) (hD : RDisk S w p m) (hm : m.ok) (h : i < 0 ∨ (m.dur.length : Int) ≤ i) :
    Calls Tryz.prog 193 #[.pointer (some ⟨p, 0, none⟩), .int .i64 i] w fun e w' => e = .returned (.tuple #[.string ByteArray.empty, .int .i64 1]) ∧ w' = w := by
  obtain ⟨vd, vp, hb, hS, hd, hp⟩ := hD
  obtain ⟨ao, cap, rfl, hcap⟩ := hd.len
  have hc := cell_of_heap (o := 0) hb
  simp at hc
  have hn := hm.len.2
  clear hd hp hm hb
  generalize m.dur.length = n at *
  by_cases h1 : i < 0
  · have h0 : decide (i < 0) = true := by simp; omega
    clear h
    go_enter Tryz.func193, Tryz.ntmps193
    go_wp2
    go_ret2
    exact ⟨rfl, rfl⟩
  · have h0 : decide (i < 0) = false := by simp; omega
    have h3 : decide ((n : Int) ≤ i) = true := by simp; omega
    clear h
    go_enter Tryz.func193, Tryz.ntmps193
    go_wp2
    go_ret2
    exact ⟨rfl, rfl⟩

set_option maxRecDepth 100000 in
set_option maxHeartbeats 800000 in
theorem rRead_yes (S : Nat → Prop) (p : Nat) (m : DM) (i : Nat) (w : World) (hD : RDisk S w p m) (hm : m.ok) (hi : i < m.dur.length) (hN : m.puts.length * 72 ≤ 140737488355328) :
    Calls Tryz.prog 193 #[.pointer (some ⟨p, 0, none⟩), .int .i64 i] w fun e w' => e = .returned (.tuple #[.string (m.read i), .int .i64 0]) ∧ w' = w := by
  obtain ⟨vd, vp, hb, hS, hd, hp⟩ := hD
  obtain ⟨g, cap, rfl, hcap, _, _, hcell, _⟩ := hd.open (by omega)
  have hc := cell_of_heap (o := 0) hb
  have hc1 := cell_of_heap (o := 1) hb
  simp at hc hc1
  have hn := hm.len.2
  have h0 : decide ((i : Int) < 0) = false := by simp
  have h3 : decide ((m.dur.length : Int) ≤ (i : Int)) = false := by simp; omega
  have hci : w.cell? ⟨g, i, none⟩ = some (.string (m.dur.getD i ByteArray.empty)) := hcell i _ (by simp [rdurCells, List.getD, hi])
  clear hcell hd hb
  obtain ⟨ap, cp, rfl, hcp⟩ := hp.len
  have hpc : ∀ k, k < m.puts.length → ∃ gp, ap = some ⟨gp, 0, none⟩ ∧ w.cell? ⟨gp, k * 2, none⟩ = some (.int .i64 ((m.puts.getD k (0, ByteArray.empty)).1 : Nat)) ∧ w.cell? ⟨gp, k * 2 + 1, none⟩ = some (.string (m.puts.getD k (0, ByteArray.empty)).2) := by
    intro k hk
    obtain ⟨gp, cap', hv, _, _, _, hpcell, _⟩ := hp.open (by omega)
    cases hv
    have hg : m.puts[k]? = some (m.puts.getD k (0, ByteArray.empty)) := by simp [List.getD, hk]
    refine ⟨gp, rfl, hpcell _ _ ?_, hpcell _ _ ?_⟩
    · have := flat_get rputCell 2 m.puts k 0 _ (fun _ _ => rfl) hg (by omega)
      exact this.trans rfl
    · have := flat_get rputCell 2 m.puts k 1 _ (fun _ _ => rfl) hg (by omega)
      exact this.trans rfl
  have HR : Hid (m.read i = lastPut (m.puts.take m.puts.length) i (m.dur.getD i ByteArray.empty)) := by rw [List.take_length]; rfl
  clear hp hm
  generalize m.dur.getD i ByteArray.empty = s0 at *
  go_enter Tryz.func193, Tryz.ntmps193
  go_wp2
  go_loop [6, 7] (fun t k => ∃ j : Nat, j ≤ m.puts.length ∧ k = .int .i64 j ∧ t = .string (lastPut (m.puts.take j) i s0)) (fun _ k => m.puts.length - (intOf k).toNat)
  case atStart => exact ⟨0, Nat.zero_le _, rfl, rfl⟩
  case round =>
    obtain ⟨j, hj, rfl, rfl⟩ := hrel
    by_cases hlt : j < m.puts.length
    · obtain ⟨gp, rfl, k0, k1⟩ := hpc j hlt
      have hs : m.puts.take (j + 1) = m.puts.take j ++ [m.puts.getD j (0, ByteArray.empty)] := by
        rw [List.take_succ_eq_append_getElem hlt]; simp [List.getD, hlt]
      have HS : Hid (lastPut (m.puts.take (j + 1)) i s0 = if (m.puts.getD j (0, ByteArray.empty)).1 = i then (m.puts.getD j (0, ByteArray.empty)).2 else lastPut (m.puts.take j) i s0) := by
        show lastPut (m.puts.take (j + 1)) i s0 = _
        rw [hs, lastPut_snoc]
      clear hs hpc
      generalize m.puts.getD j (0, ByteArray.empty) = x at *
      obtain ⟨x1, x2⟩ := x
      simp only at k0 k1 HS
      by_cases he : x1 = i
      · have hb : ((x1 : Int) == (i : Int)) = true := by simp [he]
        go_wp2
        go_round
        case rel => exact ⟨j + 1, by omega, by go_num, by rw [HS.out, if_pos he]⟩
        case measure => simp [intOf]; omega
      · have hb : ((x1 : Int) == (i : Int)) = false := by simp; omega
        go_wp2
        go_round
        case rel => exact ⟨j + 1, by omega, by go_num, by rw [HS.out, if_neg he]⟩
        case measure => simp [intOf]; omega
    · have hjn : j = m.puts.length := by omega
      have HJ : Hid (j = m.puts.length) := hjn
      clear hjn
      go_wp2
      go_ret2
      exact ⟨ret_str (by rw [HR.out, HJ.out]), rfl⟩

end Go.Proofs.YthbmmbgkchiajaaGreat
