
/- New, of the program and of the document. -/
import Derived.Test.YthbmmbgkchiajaaGreatModel
import Derived.Deep.WholeRow
namespace Go.Proofs.YthbmmbgkchiajaaGreat
open Go.RowKit

/-- 64 zero bytes. -/
def zero64 : ByteArray := ⟨(List.replicate 64 (0 : UInt8)).toArray⟩
theorem zero64_size : zero64.size = 64 := by decide
theorem zero64_cells : bcells zero64 = List.replicate 64 (Value.int .u8 0) := by
  unfold bcells zero64; simp

def freshDM (n : Nat) : DM := ⟨List.replicate n zero64, [], 0⟩
theorem freshDM_ok (n : Nat) (h0 : 1 ≤ n) (h1 : n ≤ 128) : (freshDM n).ok := by
  refine ⟨by simp [freshDM]; omega, ?_, by simp [freshDM]⟩
  intro s hs
  simp [freshDM] at hs
  rw [hs.2]; exact zero64_size

theorem durCells_fresh (n : Nat) : durCells (List.replicate n zero64) = List.replicate (n * 64) (Value.int .u8 0) := by
  induction n with
  | zero => rfl
  | succ n ih =>
    rw [List.replicate_succ, durCells, List.flatMap_cons]
    show bcells zero64 ++ durCells (List.replicate n zero64) = _
    rw [ih, zero64_cells, List.replicate_append_replicate]
    congr 1; omega

theorem made_same (v : Value) (k n : Nat) (hk : 0 < k) : (madeCells (Array.replicate k v) n).toList = List.replicate n v := by
  apply List.ext_getElem
  · simp [madeCells]
  · intro i h1 h2
    have : i % k < k := Nat.mod_lt _ hk
    simp [madeCells, this]

set_option maxRecDepth 100000 in
set_option maxHeartbeats 400000 in
theorem dNew_no (n : Int) (w : World) (h : n < 1 ∨ 128 < n) :
    Calls Tryz.prog 119 #[.int .i64 n] w fun e w' => e = .returned (.tuple #[.pointer none, .int .i64 1]) ∧ w' = w := by
  by_cases h1 : n < 1
  · have h0 : decide (n < 1) = true := by simp; omega
    clear h
    go_enter Tryz.func119, Tryz.ntmps119
    go_wp2
    go_ret2
    exact ⟨rfl, rfl⟩
  · have h0 : decide (n < 1) = false := by simp; omega
    have h2 : decide ((128 : Int) < n) = true := by simp; omega
    clear h
    go_enter Tryz.func119, Tryz.ntmps119
    go_wp2
    go_ret2
    exact ⟨rfl, rfl⟩

theorem infoSector : (Tryz.prog.info? 305).map (fun i => (i.zero, i.size, i.bytes)) = some (some (.agg (Array.replicate 64 (.int .u8 0))), 64, 64) := by kernel_rfl

set_option maxRecDepth 100000 in
set_option maxHeartbeats 400000 in
theorem dNew_yes (n : Nat) (w : World) (h0 : 1 ≤ n) (h1 : n ≤ 128) :
    Calls Tryz.prog 119 #[.int .i64 n] w fun e w' => ∃ p, e = .returned (.tuple #[.pointer (some ⟨p, 0, none⟩), .int .i64 0]) ∧ PDisk (fun k => w.heap.size ≤ k) w' p (freshDM n) ∧ Keeps (fun _ => False) w w' := by
  have g0 : decide ((n : Int) < 1) = false := by simp; omega
  have g1 : decide ((128 : Int) < (n : Int)) = false := by simp; omega
  obtain ⟨i0, hi, hz0, hz1, hz2⟩ := info_parts infoSector
  go_enter Tryz.func119, Tryz.ntmps119
  go_wp2_with (at_make; go_must (refine wpList_make_full _ rfl (.tmp 10) (.tmp 10) 229 rfl 0 305 i0 (.agg (Array.replicate 64 (.int .u8 0))) 64 Tryz.underlying229 hi hz0 hz1 .i64 .i64 _ _ n rfl rfl (by rfl) (by rfl) (by rw [hz2]; omega) (by unfold maxLen; omega) (Nat.zero_le _) ?_; intro w1 hown hg))
  go_ret2
  have hk : Keeps (fun _ => False) w w1 := (Keeps.refl _ _).grown hg (fun k h => by cases h)
  have hlt : w.heap.size < w1.heap.size := (hown.lt w.heap.size rfl).2
  refine ⟨w1.heap.size, rfl, ⟨.slice (some ⟨w.heap.size, 0, none⟩) n n, .slice none 0 0, ?_, ?_, ?_, Own.nil _ _ _ _⟩, hk.alloc _⟩
  · exact heap_alloc_last w1 _
  · show w.heap.size ≤ w1.heap.size; omega
  · refine Own.keep (T := fun _ => False) ⟨?_, ?_⟩ ((Keeps.refl _ w1).alloc _) (fun _ _ _ h => h)
    · have e1 : (freshDM n).dur.length = n := by simp [freshDM]
      have e2 : durCells (freshDM n).dur = (madeCells (Array.replicate 64 (.int .u8 0)) (n * 64)).toList := by
        rw [made_same _ _ _ (by omega)]; exact durCells_fresh n
      rw [e1, e2]; exact hown
    · intro k hk
      simp [Value.ownBlock] at hk
      exact ⟨by omega, by omega⟩

end Go.Proofs.YthbmmbgkchiajaaGreat
