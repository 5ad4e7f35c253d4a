
/- Write, of the program. -/
import Derived.Test.YthbmmbgkchiajaaGreatSmall
import Derived.Test.YthbmmbgkchiajaaGreatRWrite
import Derived.Test.YthbmmbgkchiajaaGreatArrays
import Derived.Deep.RegionLaw
namespace Go.Proofs.YthbmmbgkchiajaaGreat
open Go.RowKit

set_option maxRecDepth 100000 in
set_option maxHeartbeats 400000 in
theorem dWrite_no (S : Nat → Prop) (p : Nat) (m : DM) (i : Int) (ao : Option Addr) (len cap : Nat) (w : World) (hD : PDisk S w p m) (hm : m.ok) (h : i < 0 ∨ (m.dur.length : Int) ≤ i ∨ len ≠ 64) (_hs : len ≤ 9223372036854775807) :
    Calls Tryz.prog 190 #[.pointer (some ⟨p, 0, none⟩), .int .i64 i, .slice ao len cap] w fun e w' => e = .returned (.int .i64 1) ∧ w' = w := by
  obtain ⟨vd, vp, hb, hS, hd, hp⟩ := hD
  obtain ⟨ad, cd, rfl, hcap⟩ := hd.len
  have hc := cell_of_heap (o := 0) hb
  simp at hc
  have hn := hm.len.2
  clear hd hp hm hb
  generalize m.dur.length = n at *
  by_cases h1 : i < 0 ∨ (n : Int) ≤ i
  · clear h
    go_enter Tryz.func190, Tryz.ntmps190
    go_wp2_with (go_at_call 254; refine (has_no p n cd ad i _ hc h1 (by omega)).mono ?_; rintro e w' ⟨rfl, rfl⟩)
    go_ret
    exact ⟨rfl, rfl⟩
  · obtain ⟨k, rfl⟩ := Int.eq_ofNat_of_zero_le (a := i) (by omega)
    have h4 : ((len : Int) != 64) = true := by rw [bne_iff_ne]; omega
    have hk : k < n := by omega
    clear h h1
    go_enter Tryz.func190, Tryz.ntmps190
    go_wp2_with (go_at_call 254; refine (has_yes p n cd ad k _ hc hk (by omega)).mono ?_; rintro e w' ⟨rfl, rfl⟩)
    go_ret
    exact ⟨rfl, rfl⟩

theorem write_zero_size : (Value.agg (Array.replicate 1 (.int .i64 0) ++ Array.replicate 64 (.int .u8 0))).cells.size = 65 := by
  show (Array.replicate 1 (Value.int .i64 0) ++ Array.replicate 64 (Value.int .u8 0)).size = 65
  rw [Array.size_append, Array.size_replicate, Array.size_replicate]

theorem run_bs_write (W : World) (i : Int) (cs : List Value) (hbl : cs.length = 64) : (Instr.buildSlice 230 1 #[(0, .agg (wcells i cs))]).run Tryz.prog W = .ok (.slice (some ⟨W.heap.size, 0, none⟩) 1 1) (W.alloc (.cells (wcells i cs) 307)) := by
  obtain ⟨i0, hi0, hz0, hz1, hz2⟩ := info_parts infoWrite
  have hl : (wcells i cs).size = 65 := by rw [wcells_size, hbl]
  generalize wcells i cs = cs at *
  exact run_buildSlice_cells W 230 307 i0 _ (.agg cs) cs 65 Tryz.underlying230 hi0 hz0 hz1 write_zero_size (by omega) (by omega) rfl hl

/-- 'build' and 'buildSlice' at these types, under names of their own: so that the walk's rules do not open them. -/
def wBuild (parts : Array (Nat × Value)) : Sem Value := Instr.build 307 parts
theorem wBuild_eq (parts : Array (Nat × Value)) : Instr.build 307 parts = wBuild parts := rfl
theorem run_wBuild (W : World) (i : Int) (cs : List Value) (hc : cs.length = 64) : (wBuild #[(0, .int .i64 i), (1, .agg cs.toArray)]).run Tryz.prog W = .ok (.agg (wcells i cs)) W := run_build_write W i cs hc
def wSlice (parts : Array (Nat × Value)) : Sem Value := Instr.buildSlice 230 1 parts
theorem wSlice_eq (parts : Array (Nat × Value)) : Instr.buildSlice 230 1 parts = wSlice parts := rfl
theorem run_wSlice (W : World) (i : Int) (cs : List Value) (hc : cs.length = 64) : (wSlice #[(0, .agg (wcells i cs))]).run Tryz.prog W = .ok (.slice (some ⟨W.heap.size, 0, none⟩) 1 1) (W.alloc (.cells (wcells i cs) 307)) := run_bs_write W i cs hc
attribute [local go_sem ↓] wBuild_eq wSlice_eq secLoad_eq
attribute [local go_sem] run_wBuild run_wSlice


set_option maxRecDepth 100000 in
set_option maxHeartbeats 400000 in
theorem dWrite_yes (S : Nat → Prop) (p : Nat) (m : DM) (i gb cap : Nat) (s : ByteArray) (w : World) (hD : PDisk S w p m) (hm : m.ok) (hi : i < m.dur.length) (hs : s.size = 64) (hN : (m.puts.length + 1) * 72 ≤ 140737488355328)
    (hr : w.rangeAt gb 0 (bcells s)) (hgb : gb < w.heap.size) (hgS : ¬ S gb) (_h64 : 64 ≤ cap) :
    Calls Tryz.prog 190 #[.pointer (some ⟨p, 0, none⟩), .int .i64 i, .slice (some ⟨gb, 0, none⟩) 64 cap] w fun e w' => e = .returned (.int .i64 0) ∧ PDisk (fun k => S k ∨ w.heap.size ≤ k) w' p (m.put i s) ∧ Keeps S w w' := by
  obtain ⟨vd, vp, hb, hS, hd, hp⟩ := hD
  have hd0 := hd
  obtain ⟨ad, cd, rfl, hcap⟩ := hd.len
  have hc := cell_of_heap (o := 0) hb
  have hc1 := cell_of_heap (o := 1) hb
  simp at hc hc1
  have hn := hm.len.2
  have hbl : (bcells s).length = 64 := by rw [bcells_length, hs]
  obtain ⟨i0, hi0, hz0, hz1, hz2⟩ := info_parts infoWrite
  have hpn : ¬ vp.ownBlock = some p := fun e => (hp.2 _ e).2.1 rfl
  have hplt := lt_of_heap hb
  have haa := fun W => run_arrayAt W ⟨gb, 0, none⟩ cap
  go_enter Tryz.func190, Tryz.ntmps190
  go_wp2_with (go_at_call 254; refine (has_yes p m.dur.length cd ad i _ hc hi (by omega)).mono ?_; rintro e w' ⟨rfl, rfl⟩)
  have hld : (secLoad (.pointer (some ⟨gb, 0, none⟩))).run Tryz.prog w'.drew = .ok (.agg (bcells s).toArray) w'.drew := run_secLoad _ gb 0 _ (by simpa using hr) hbl
  go_region_law ((refine step_append_lies _ (by rfl) _ _ _ (by rfl) 0 307 i0 _ 65 72 Tryz.underlying230 hi0 hz0 hz1 hz2 write_zero_size (by omega) vp m.puts.length (putCells m.puts) (by rfl) ((hp.1.alloc _).drew) ⟨w'.heap.size, 0, none⟩ 1 1 (putCell (i, s)) (by rfl) (by rw [putCell_length _ hs]) (World.news_of_block (cs := wcells i (bcells s)) (t := 307) (fr := (0, 0)) (by exact heap_alloc_new _ _)) (putCell_one _) (by omega) (by unfold maxLen; omega) (by omega) (Nat.zero_le _) (w'.heap.size + 1) (by simp) ?_; intro gg cap' w1 hown1 hgrow hat hlt1; have hk1 := keeps_grown ((Keeps.refl _ w').alloc _).drew hgrow; have hb1 := hk1.heap hb hpn; have hc2 := cell_of_heap (o := 1) hb1; have hf2 := frozen_of_heap (o := 1) hb1; simp at hc2; have hr2 := hk1.range hr hgb (fun e => hgS (hp.2 _ e).1)))
  all_goals
    go_wp2
    go_ret
    obtain ⟨g1, g2⟩ := Two.append hb hS hd0 hp hk1 hown1 hat (by omega)
    refine ⟨rfl, ?_, g2⟩
    unfold PDisk DM.put putCells
    rw [List.length_append, List.flatMap_append, List.length_singleton, List.flatMap_singleton]
    exact g1

end Go.Proofs.YthbmmbgkchiajaaGreat
