
/- Write, of the document. -/
import Derived.Test.YthbmmbgkchiajaaGreatNew
namespace Go.Proofs.YthbmmbgkchiajaaGreat
open Go.RowKit

def DM.put (m : DM) (i : Nat) (s : ByteArray) : DM := ⟨m.dur, m.puts ++ [(i, s)], m.syncs⟩
theorem DM.put_ok {m : DM} (h : m.ok) {i : Nat} {s : ByteArray} (hi : i < m.dur.length) (hs : s.size = 64) : (m.put i s).ok := by
  refine ⟨h.len, h.dur, ?_⟩
  intro x hx
  simp only [DM.put, List.mem_append, List.mem_singleton] at hx
  rcases hx with hx | rfl
  · exact h.puts x hx
  · exact ⟨hi, hs⟩

theorem Own.len {S : Nat → Prop} {w : World} {e size n : Nat} {v : Value} {xs : List Value} (h : Own S w e size v n xs) : ∃ ao cap, v = .slice ao n cap ∧ n ≤ cap := by
  rcases h.1.2 with ⟨rfl, rfl⟩ | ⟨g, cap, cur, rfl, _, _, hc, _⟩
  · exact ⟨none, 0, rfl, Nat.le_refl _⟩
  · exact ⟨_, cap, rfl, hc⟩

theorem infoPut : (Tryz.prog.info? 315).map (fun i => (i.zero, i.size, i.bytes)) = some (some (.agg #[.int .i64 0, .string ByteArray.empty]), 2, 24) := by kernel_rfl

set_option maxRecDepth 100000 in
set_option maxHeartbeats 400000 in
theorem rWrite_no (S : Nat → Prop) (p : Nat) (m : DM) (i : Int) (s : ByteArray) (w : World) (hD : RDisk S w p m) (hm : m.ok) (h : i < 0 ∨ (m.dur.length : Int) ≤ i ∨ s.size ≠ 64) (_hs : s.size ≤ 9223372036854775807) :
    Calls Tryz.prog 191 #[.pointer (some ⟨p, 0, none⟩), .int .i64 i, .string s] w fun e w' => e = .returned (.int .i64 1) ∧ w' = w := by
  obtain ⟨vd, vp, hb, hS, hd, hp⟩ := hD
  obtain ⟨ao, cap, rfl, hcap⟩ := hd.len
  have hc := cell_of_heap (o := 0) hb
  simp at hc
  have hn := hm.len.2
  clear hd hp hm hb
  generalize m.dur.length = n at *
  by_cases h1 : i < 0
  · have h0 : decide (i < 0) = true := by simp; omega
    clear h
    go_enter Tryz.func191, Tryz.ntmps191
    go_wp2
    go_ret
    exact ⟨rfl, rfl⟩
  · have h0 : decide (i < 0) = false := by simp; omega
    by_cases h2 : (n : Int) ≤ i
    · have h3 : decide ((n : Int) ≤ i) = true := by simp; omega
      clear h
      go_enter Tryz.func191, Tryz.ntmps191
      go_wp2
      go_ret
      exact ⟨rfl, rfl⟩
    · have h3 : decide ((n : Int) ≤ i) = false := by simp; omega
      have h4 : ((s.size : Int) != 64) = true := by rw [bne_iff_ne]; omega
      clear h
      go_enter Tryz.func191, Tryz.ntmps191
      go_wp2
      go_ret
      exact ⟨rfl, rfl⟩

set_option maxRecDepth 100000 in
set_option maxHeartbeats 400000 in
theorem rWrite_yes (S : Nat → Prop) (p : Nat) (m : DM) (i : Nat) (s : ByteArray) (w : World) (hD : RDisk S w p m) (hm : m.ok) (hi : i < m.dur.length) (hs : s.size = 64) (hN : (m.puts.length + 1) * 72 ≤ 140737488355328) :
    Calls Tryz.prog 191 #[.pointer (some ⟨p, 0, none⟩), .int .i64 i, .string s] w fun e w' => e = .returned (.int .i64 0) ∧ RDisk (fun k => S k ∨ w.heap.size ≤ k) w' p (m.put i s) ∧ Keeps S w w' := by
  obtain ⟨vd, vp, hb, hS, hd, hp⟩ := hD
  have hd0 := hd
  obtain ⟨ao, cap, rfl, hcap⟩ := hd.len
  have hc := cell_of_heap (o := 0) hb
  have hc1 := cell_of_heap (o := 1) hb
  simp at hc hc1
  have hn := hm.len.2
  have h0 : decide ((i : Int) < 0) = false := by simp
  have h3 : decide ((m.dur.length : Int) ≤ (i : Int)) = false := by simp; omega
  have h4 : ((s.size : Int) != 64) = false := by rw [hs]; rfl
  have HS : Hid (s.size = 64) := hs
  clear hs
  obtain ⟨i0, hi0, hz0, hz1, hz2⟩ := info_parts infoPut
  have hpn : ¬ vp.ownBlock = some p := fun e => (hp.2 _ e).2.1 rfl
  go_enter Tryz.func191, Tryz.ntmps191
  go_wp2_with (at_builtin; go_must (refine wpList_append_lies _ rfl (.tmp 27) (.tmp 31) _ rfl 0 315 i0 _ 2 24 Tryz.underlying234 hi0 hz0 hz1 hz2 rfl (by omega) vp m.puts.length (rputCells m.puts) (by rfl) (hp.1.alloc _) ⟨w.heap.size, 0, none⟩ 1 1 [.int .i64 i, .string s] (by rfl) (by rfl) (World.news_of_block (cs := #[.int .i64 i, .string s]) (t := 315) (fr := (0, 0)) (by exact heap_alloc_new w _)) (by simp [Value.oneCell']) (by omega) (by unfold maxLen; omega) (by omega) (Nat.zero_le _) (w.heap.size + 1) (by simp) ?_; intro gg cap' w1 hown1 hgrow hat hlt1; have hk1 := keeps_grown ((Keeps.refl _ w).alloc _) hgrow; have hb1 := hk1.heap hb hpn; have hc2 := cell_of_heap (o := 1) hb1; have hf2 := frozen_of_heap (o := 1) hb1; simp at hc2))
  go_ret
  obtain ⟨g1, g2⟩ := Two.append hb hS hd0 hp hk1 hown1 hat (by omega)
  refine ⟨rfl, ?_, g2⟩
  unfold RDisk DM.put rputCells
  rw [List.length_append, List.flatMap_append, List.length_singleton]
  exact g1

end Go.Proofs.YthbmmbgkchiajaaGreat
