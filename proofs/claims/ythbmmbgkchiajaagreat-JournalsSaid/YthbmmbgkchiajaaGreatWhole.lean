
/- Are bytes that were lent whole? The bytes of a step that writes a sector. -/
import Derived.Test.YthbmmbgkchiajaaGreatLent
namespace Go.Proofs.YthbmmbgkchiajaaGreat
open Go.RowKit

theorem ba_eta (s : ByteArray) : (⟨s.data.toList.toArray⟩ : ByteArray) = s := by cases s; simp

/-- string(b), b's cells the bytes of s. -/
theorem run_bytesBack (W : World) (b cap : Nat) (s : ByteArray) (h : W.rangeAt b 0 (bcells s)) : (convert 138 9 (.slice (some ⟨b, 0, none⟩) s.size cap)).run Tryz.prog W = .ok (.string s) W := by
  have := run_convert_bytes_back (P := Tryz.prog) W 138 9 5 ⟨b, 0, none⟩ cap s.data.toList Tryz.underlying138 Tryz.underlying5 Tryz.underlying9 (fun j hj => by
    have hadd : (⟨b, 0, none⟩ : Addr).add j = ⟨b, j, none⟩ := by unfold Addr.add; split <;> simp_all
    rw [hadd]
    have := h j (.int .u8 (s.data.toList[j].toNat : Int)) (by simp only [bcells, List.getElem?_map, List.getElem?_eq_getElem hj]; rfl)
    rw [Nat.zero_add] at this
    exact this)
  rw [ba_eta] at this
  have hl : s.data.toList.length = s.size := by simp
  rw [hl] at this
  exact this

theorem lentArr_lo (s : ByteArray) (i : Nat) (h : i < s.size) : (lentArr s 8)[i]? = (bcells s)[i]? := by
  have hl := bcells_length s
  unfold lentArr
  rw [List.getElem?_toArray, List.getElem?_append_left (by omega)]
theorem lentArr_hi (s : ByteArray) (i : Nat) (h : s.size ≤ i) (h2 : i < s.size + 8) : (lentArr s 8)[i]? = some (.int .u8 77) := by
  have hl := bcells_length s
  unfold lentArr
  rw [List.getElem?_toArray, List.getElem?_append_right (by omega), List.getElem?_append_left (by simp; omega), List.getElem?_replicate, if_pos (by omega)]

def WholeRel (w : World) (g n : Nat) (e : TypeId) (arr : Array Value) (j : Nat) (wr : World) : Prop :=
  ∃ cur, wr.heap[g]? = some (.cells cur e (0, 0)) ∧ cur.size = n ∧ (∀ i, j ≤ i → cur[i]? = arr[i]?) ∧ Keeps (fun k => k = g) w wr

theorem whole_step {w wr : World} {g n j : Nat} {e : TypeId} {arr : Array Value} (h : WholeRel w g n e arr j wr) (v : Value) : WholeRel w g n e arr (j + 1) (wr.setCell ⟨g, j, none⟩ v) := by
  obtain ⟨cur, h1, h2, h3, h4⟩ := h
  refine ⟨cur.setIfInBounds j v, heap_setCell_same h1 _, by simp [h2], fun i hi => ?_, h4.setCell (p := ⟨g, j, none⟩) (.inl rfl) _⟩
  rw [Array.getElem?_setIfInBounds_ne (by omega)]
  exact h3 i (by omega)

set_option maxRecDepth 100000 in
set_option maxHeartbeats 800000 in
theorem wholeBytes_any (s : ByteArray) (g : Nat) (w : World) (hs : s.size ≤ 140737488355328) (hg : w.heap[g]? = some (.cells (lentArr s 8) 5 (0, 0))) :
    Calls Tryz.prog 192 #[.slice (some ⟨g, 0, none⟩) s.size (s.size + 8), .string s] w fun e w' => e = .returned (.bool true) ∧ Keeps (fun k => k = g) w w' := by
  have hr : w.rangeAt g 0 (bcells s) := by
    intro j v hj
    have hj' := (List.getElem?_eq_some_iff.1 hj).1
    rw [bcells_length] at hj'
    rw [cell_of_heap hg, Nat.zero_add, lentArr_lo s j hj']; exact hj
  have hcv := run_bytesBack w g (s.size + 8) s hr
  have hR0 : WholeRel w g (s.size + 8) 5 (lentArr s 8) 0 w := ⟨_, hg, lentArr_size s 8 (by omega), fun _ _ => rfl, Keeps.refl _ _⟩
  have HR0 := hide hR0
  clear hR0
  go_enter Tryz.func192, Tryz.ntmps192
  go_wp2
  go_loopw [7, 8] (fun o i wr => ∃ j : Nat, j ≤ s.size + 8 ∧ i = .int .i64 j ∧ o = .bool true ∧ WholeRel w g (s.size + 8) 5 (lentArr s 8) j wr) (fun _ i _ => (s.size + 8) - (intOf i).toNat)
  case atStart => exact ⟨0, by omega, rfl, by simp, unhide HR0⟩
  case round =>
    obtain ⟨j, hj, rfl, rfl, hR⟩ := hrel
    have HR := hide hR
    obtain ⟨cur, q1, q2, q3, q4⟩ := hR
    by_cases hlt : j < s.size + 8
    · have hc := cell_of_heap (o := j) q1
      have hf := frozen_of_heap (o := j) q1
      by_cases hn : j < s.size
      · rw [Array.getElem?_eq_getElem (by omega)] at hc
        have hd : decide ((j : Int) < (s.size : Int)) = true := by simp; omega
        go_wp2
        go_roundw
        case rel => exact ⟨j + 1, by omega, by go_num, rfl, whole_step (unhide HR) _⟩
        case measure => simp [intOf]; omega
      · rw [q3 j (Nat.le_refl _), lentArr_hi s j (by omega) hlt] at hc
        have hd : decide ((j : Int) < (s.size : Int)) = false := by simp; omega
        go_wp2
        go_roundw
        case rel => exact ⟨j + 1, by omega, by go_num, by simp, whole_step (unhide HR) _⟩
        case measure => simp [intOf]; omega
    · go_wp2
      go_ret
      exact ⟨rfl, q4⟩

/-- S of a step that fills it up to a sector, or cuts it. -/
def pad64 (s : ByteArray) : ByteArray := ⟨(s.data.toList.take 64 ++ List.replicate (64 - s.size) 0).toArray⟩
theorem pad64_size (s : ByteArray) : (pad64 s).size = 64 := by
  unfold pad64
  show (s.data.toList.take 64 ++ List.replicate (64 - s.size) 0).toArray.size = 64
  have : s.data.size = s.size := rfl
  simp [this]; omega
theorem pad64_cells (s : ByteArray) : (bcells s).take 64 ++ zrow.toList.drop ((bcells s).take 64).length = bcells (pad64 s) := by
  have hl := bcells_length s
  unfold pad64
  have e : bcells ⟨(s.data.toList.take 64 ++ List.replicate (64 - s.size) 0).toArray⟩ = (s.data.toList.take 64 ++ List.replicate (64 - s.size) 0).map (fun b : UInt8 => Value.int .u8 (b.toNat : Int)) := by simp [bcells]
  rw [e, List.map_append, List.map_take]
  congr 1
  rw [List.length_take, hl, List.map_replicate]
  unfold zrow
  rw [Array.toList_replicate, List.drop_replicate]
  have : 64 - min 64 s.size = 64 - s.size := by omega
  rw [this]; rfl

theorem ret_string {a b : ByteArray} (h : a = b) : Ending.returned (.string a) = .returned (.string b) := by rw [h]
def sectorOf (c : Int) (s : ByteArray) : ByteArray := if c.tmod 2 = 0 then pad64 s else s

attribute [local go_sem ↓] strCopy_eq

set_option maxRecDepth 100000 in
set_option maxHeartbeats 800000 in
theorem sector_any (v0 v1 v2 v5 v6 : Value) (c : Int) (s : ByteArray) (w : World) (_h0 : -9223372036854775808 ≤ c) (_h1 : c ≤ 9223372036854775807) :
    Calls Tryz.prog 188 #[.agg #[v0, v1, v2, .int .i64 c, .string s, v5, v6]] w fun e w' => e = .returned (.string (sectorOf c s)) ∧ Keeps (fun _ => False) w w' := by
  by_cases hc : c.tmod 2 = 0
  · have hb : (c.tmod 2 != 0) = false := by simp [hc]
    have HE : Hid (sectorOf c s = pad64 s) := if_pos hc
    have hmk := run_make64
    have hcp := fun W => run_strCopy W zrow 64 64 s (by simp [zrow])
    have hcv : ∀ W : World, (convert 138 9 (.slice (some ⟨W.heap.size, 0, none⟩) 64 64)).run Tryz.prog (W.alloc (.cells (bcells (pad64 s)).toArray 5)) = .ok (.string (pad64 s)) (W.alloc (.cells (bcells (pad64 s)).toArray 5)) := by
      intro W
      have := run_bytesBack (W.alloc (.cells (bcells (pad64 s)).toArray 5)) W.heap.size 64 (pad64 s) (fun j v hj => by rw [cell_of_heap (heap_alloc_last W _), Nat.zero_add, List.getElem?_toArray]; exact hj)
      rw [pad64_size] at this
      exact this
    simp only [pad64_cells] at hcp
    have hsz : (w.alloc (.cells #[v0, v1, v2, .int .i64 c, .string s, v5, v6] 81)).heap.size = w.heap.size + 1 := by simp
    have hcp1 := hcp (w.alloc (.cells #[v0, v1, v2, .int .i64 c, .string s, v5, v6] 81))
    have hcv1 := hcv (w.alloc (.cells #[v0, v1, v2, .int .i64 c, .string s, v5, v6] 81))
    rw [hsz] at hcp1 hcv1
    clear hcp hcv hsz
    clear hc
    go_enter Tryz.func188, Tryz.ntmps188
    go_wp2
    go_ret
    exact ⟨ret_string (unhide HE).symm, by repeat (first | exact Keeps.refl _ _ | refine Keeps.alloc ?_ _)⟩
  · have hb : (c.tmod 2 != 0) = true := by simpa using hc
    have HE : Hid (sectorOf c s = s) := if_neg hc
    clear hc
    go_enter Tryz.func188, Tryz.ntmps188
    go_wp2
    go_ret
    exact ⟨ret_string (unhide HE).symm, by repeat (first | exact Keeps.refl _ _ | refine Keeps.alloc ?_ _)⟩

end Go.Proofs.YthbmmbgkchiajaaGreat
