
/- New, of the document. -/
import Derived.Test.YthbmmbgkchiajaaGreatNew
import Derived.Deep.RegionLaw
namespace Go.Proofs.YthbmmbgkchiajaaGreat
open Go.RowKit

attribute [local go_sem ↓] Go.wp_at_zero Go.wp_at_succ

set_option maxRecDepth 100000 in
set_option maxHeartbeats 400000 in
theorem rNew_no (n : Int) (w : World) (h : n < 1 ∨ 128 < n) :
    Calls Tryz.prog 120 #[.int .i64 n] w fun e w' => e = .returned (.tuple #[.pointer none, .int .i64 1]) ∧ w' = w := by
  by_cases h1 : n < 1
  · have h0 : decide (n < 1) = true := by simp; omega
    clear h
    go_enter Tryz.func120, Tryz.ntmps120
    go_wp2
    go_ret2
    exact ⟨rfl, rfl⟩
  · have h0 : decide (n < 1) = false := by simp; omega
    have h2 : decide ((128 : Int) < n) = true := by simp; omega
    clear h
    go_enter Tryz.func120, Tryz.ntmps120
    go_wp2
    go_ret2
    exact ⟨rfl, rfl⟩

theorem infoString : (Tryz.prog.info? 9).map (fun i => (i.zero, i.size, i.bytes)) = some (some (.string ByteArray.empty), 1, 16) := by kernel_rfl

/-- 64 zero cells. -/
def zrow : Array Value := Array.replicate 64 (.int .u8 0)
theorem infoU8 : (Tryz.prog.info? 5).map (fun i => (i.zero, i.size, i.bytes)) = some (some (.int .u8 0), 1, 1) := by kernel_rfl
theorem run_make64 (W : World) : (Instr.makeSlice 138 (.int .i64 64) (.int .i64 64)).run Tryz.prog W = .ok (.slice (some ⟨W.heap.size, 0, none⟩) 64 64) (W.alloc (.cells zrow 5)) := by
  obtain ⟨i0, hi, hz0, hz1, hz2⟩ := info_parts infoU8
  have := run_make (P := Tryz.prog) W 138 5 i0 _ Tryz.underlying138 hi hz0 .i64 .i64 64 64 (by omega) (by omega) (by rw [hz2]; omega) (by omega)
  rw [this, hz1]
  have e : madeCells (Value.int .u8 0).cells (Int.toNat 64 * 1) = zrow := by
    apply Array.toList_inj.1
    show (madeCells (Array.replicate 1 (Value.int .u8 0)) 64).toList = _
    rw [made_same _ 1 _ (by omega)]; simp [zrow]
  rw [e]; rfl
theorem run_string64 (W : World) : (convert 138 9 (.slice (some ⟨W.heap.size, 0, none⟩) 64 64)).run Tryz.prog (W.alloc (.cells zrow 5)).drew = .ok (.string zero64) (W.alloc (.cells zrow 5)).drew := by
  have hl : ∀ j, j < 64 → ∀ (h : j < (List.replicate 64 (0 : UInt8)).length), ((List.replicate 64 (0 : UInt8))[j]'h) = 0 := fun j _ h => List.getElem_replicate _
  have := run_convert_bytes_back (P := Tryz.prog) (W.alloc (.cells zrow 5)).drew 138 9 5 ⟨W.heap.size, 0, none⟩ 64 (List.replicate 64 0) Tryz.underlying138 Tryz.underlying5 Tryz.underlying9 (fun j hj => by
    have hadd : (⟨W.heap.size, 0, none⟩ : Addr).add j = ⟨W.heap.size, j, none⟩ := by unfold Addr.add; split <;> simp_all
    have h64 : j < 64 := by rw [List.length_replicate] at hj; exact hj
    rw [hadd, hl j h64 hj]
    show (W.alloc (.cells zrow 5)).cell? _ = _
    rw [cell_of_heap (heap_alloc_last W _)]
    unfold zrow
    rw [Array.getElem?_replicate, if_pos h64]; rfl)
  rw [List.length_replicate] at this
  exact this

def RNewRel (w : World) (p _n : Nat) (wr : World) (j : Nat) : Prop :=
  ∃ vl, wr.heap[p]? = some (.cells #[vl, .slice none 0 0, .int .i64 0] 236 (0, 0)) ∧ Own (fun k => w.heap.size ≤ k ∧ k ≠ p) wr 9 1 vl j (List.replicate j (.string zero64)) ∧ Keeps (fun _ => False) w wr

theorem rnew_step {w wr w1 : World} {n j gg cap : Nat} {vl : Value} (hb : wr.heap[w.heap.size]? = some (.cells #[vl, .slice none 0 0, .int .i64 0] 236 (0, 0)))
    (hown : Own (fun k => w.heap.size ≤ k ∧ k ≠ w.heap.size) wr 9 1 vl j (List.replicate j (.string zero64))) (hk : Keeps (fun _ => False) w wr) (hk1 : Keeps (fun k => vl.ownBlock = some k) wr w1)
    (hown1 : w1.ownsRow 0 9 1 (.slice (some ⟨gg, 0, none⟩) (j + 1) cap) (j + 1) (List.replicate j (.string zero64) ++ [.string zero64])) (hat : vl.ownBlock = some gg ∨ gg = wr.heap.size + 2) :
    RNewRel w w.heap.size n (w1.setCell ⟨w.heap.size, 0, none⟩ (.slice (some ⟨gg, 0, none⟩) (j + 1) cap)) (j + 1) := by
  obtain ⟨f1, f2, f3⟩ := Own.field (f := 0) hb hown (fun h => h.2 rfl) hk1 hown1 hat (by omega)
  refine ⟨_, by simpa using f1, ?_, ?_⟩
  · rw [List.replicate_succ']
    refine f2.mono (fun k _ h => ?_)
    have := lt_of_heap hb
    rcases h with h | h
    · exact h
    · exact ⟨by omega, by omega⟩
  · refine hk.trans f3 (fun i hi h => ?_)
    rcases h with h | h
    · omega
    · exact absurd h.1 (by omega)

set_option maxRecDepth 100000 in
set_option maxHeartbeats 800000 in
theorem rNew_yes (n : Nat) (w : World) (h0 : 1 ≤ n) (h1 : n ≤ 128) :
    Calls Tryz.prog 120 #[.int .i64 n] w fun e w' => ∃ p, e = .returned (.tuple #[.pointer (some ⟨p, 0, none⟩), .int .i64 0]) ∧ RDisk (fun k => w.heap.size ≤ k) w' p (freshDM n) ∧ Keeps (fun _ => False) w w' := by
  have g0 : decide ((n : Int) < 1) = false := by simp; omega
  have g1 : decide ((128 : Int) < (n : Int)) = false := by simp; omega
  obtain ⟨i0, hi, hz0, hz1, hz2⟩ := info_parts infoString
  go_enter Tryz.func120, Tryz.ntmps120
  go_wp2
  go_loopw [5] (fun i wr => ∃ j : Nat, j ≤ n ∧ i = .int .i64 j ∧ RNewRel w w.heap.size n wr j) (fun i _ => n - (intOf i).toNat)
  case atStart => exact ⟨0, Nat.zero_le _, rfl, .slice none 0 0, heap_alloc_last w _, Own.nil _ _ _ _, (Keeps.refl _ _).alloc _⟩
  case round =>
    obtain ⟨j, hj, rfl, hR⟩ := hrel
    by_cases hlt : j < n
    · obtain ⟨vl, hb, hown, hk⟩ := hR
      have hc := cell_of_heap (o := 0) hb
      have hf := frozen_of_heap (o := 0) hb
      simp at hc
      have hplt : w.heap.size < wr.heap.size := lt_of_heap hb
      go_wp2_with fail
      have hmk := run_make64
      have hcv := run_string64
      have hpn : ¬ vl.ownBlock = some w.heap.size := fun e => (hown.2 _ e).2 rfl
      go_region_law ((refine step_append_lies _ (by rfl) _ _ _ (by rfl) 0 9 i0 _ 1 16 Tryz.underlying233 hi hz0 hz1 hz2 rfl (by omega) vl j (List.replicate j (.string zero64)) (by rfl) (((hown.1.alloc _).alloc _).drew) ⟨wr.heap.size + 1, 0, none⟩ 1 1 [.string zero64] (by rfl) (by rfl) (World.news_of_block (cs := #[.string zero64]) (t := 9) (fr := (0, 0)) (by exact heap_two wr _ _)) (by simp [Value.oneCell']) (by omega) (by unfold maxLen; omega) (by omega) (Nat.zero_le _) (wr.heap.size + 2) (by simp) ?_; intro gg cap w1 hown1 hgrow hat hlt1; have hk1 := keeps_grown (((Keeps.refl _ wr).alloc _).alloc _).drew hgrow; have hb1 := hk1.heap hb hpn; have hc1 := cell_of_heap (o := 0) hb1; have hf1 := frozen_of_heap (o := 0) hb1; simp at hc1))
      all_goals
        go_wp2
        go_roundw
        case rel => exact ⟨j + 1, by omega, by go_num, rnew_step hb hown hk hk1 hown1 hat⟩
        case measure => simp [intOf]; omega
    · go_wp2
      go_ret2
      obtain ⟨vl, hb, hown, hk⟩ := hR
      have hjn : j = n := by omega
      subst hjn
      refine ⟨w.heap.size, rfl, ⟨vl, .slice none 0 0, hb, Nat.le_refl _, ?_, Own.nil _ _ _ _⟩, hk⟩
      have e1 : (freshDM j).dur.length = j := by simp [freshDM]
      have e2 : rdurCells (freshDM j).dur = List.replicate j (.string zero64) := by simp [freshDM, rdurCells]
      rw [e1, e2]; exact hown

end Go.Proofs.YthbmmbgkchiajaaGreat
