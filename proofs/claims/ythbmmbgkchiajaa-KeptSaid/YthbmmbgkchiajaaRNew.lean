
/- New, of the document. -/
import Derived.Test.YthbmmbgkchiajaaNew
import Derived.Deep.RegionLaw
namespace Go.Proofs.Ythbmmbgkchiajaa
open Go.RowKit

attribute [local go_sem ↓] Go.wp_at_zero Go.wp_at_succ

theorem infoString : (Try.prog.info? 9).map (fun i => (i.zero, i.size, i.bytes)) = some (some (.string ByteArray.empty), 1, 16) := by kernel_rfl

/-- 64 zero cells. -/
def zrow : Array Value := Array.replicate 64 (.int .u8 0)
theorem infoU8 : (Try.prog.info? 5).map (fun i => (i.zero, i.size, i.bytes)) = some (some (.int .u8 0), 1, 1) := by kernel_rfl
theorem run_make64 (W : World) : (Instr.makeSlice 48 (.int .i64 64) (.int .i64 64)).run Try.prog W = .ok (.slice (some ⟨W.heap.size, 0, none⟩) 64 64) (W.alloc (.cells zrow 5)) := by
  obtain ⟨i0, hi, hz0, hz1, hz2⟩ := info_parts infoU8
  have := run_make (P := Try.prog) W 48 5 i0 _ Try.underlying48 hi hz0 .i64 .i64 64 64 (by omega) (by omega) (by rw [hz2]; omega) (by omega)
  rw [this, hz1]
  have e : madeCells (Value.int .u8 0).cells (Int.toNat 64 * 1) = zrow := by
    apply Array.toList_inj.1
    show (madeCells (Array.replicate 1 (Value.int .u8 0)) 64).toList = _
    rw [made_same _ 1 _ (by omega)]; simp [zrow]
  rw [e]; rfl
theorem run_string64 (W : World) : (convert 48 9 (.slice (some ⟨W.heap.size, 0, none⟩) 64 64)).run Try.prog (W.alloc (.cells zrow 5)).drew = .ok (.string zero64) (W.alloc (.cells zrow 5)).drew := by
  have hl : ∀ j, j < 64 → ∀ (h : j < (List.replicate 64 (0 : UInt8)).length), ((List.replicate 64 (0 : UInt8))[j]'h) = 0 := fun j _ h => List.getElem_replicate _
  have := run_convert_bytes_back (P := Try.prog) (W.alloc (.cells zrow 5)).drew 48 9 5 ⟨W.heap.size, 0, none⟩ 64 (List.replicate 64 0) Try.underlying48 Try.underlying5 Try.underlying9 (fun j hj => by
    have hadd : (⟨W.heap.size, 0, none⟩ : Addr).add j = ⟨W.heap.size, j, none⟩ := by unfold Addr.add; split <;> simp_all
    have h64 : j < 64 := by rw [List.length_replicate] at hj; exact hj
    rw [hadd, hl j h64 hj]
    show (W.alloc (.cells zrow 5)).cell? _ = _
    rw [cell_of_heap (heap_alloc_last W _)]
    unfold zrow
    rw [Array.getElem?_replicate, if_pos h64]; rfl)
  rw [List.length_replicate] at this
  exact this

end Go.Proofs.Ythbmmbgkchiajaa
