
/- What is handed in: bytes with room behind them; are they whole? -/
import Derived.Test.YthbmmbgkchiajaaGreatDSync
namespace Go.Proofs.YthbmmbgkchiajaaGreat
open Go.RowKit

theorem setCells_alloc (W : World) (e : TypeId) : ∀ (vs : List Value) (o : Nat) (cur : Array Value), o + vs.length ≤ cur.size →
    (W.alloc (.cells cur e)).setCells W.heap.size o vs = W.alloc (.cells (cur.toList.take o ++ vs ++ cur.toList.drop (o + vs.length)).toArray e)
  | [], o, cur, _ => by simp [World.setCells]
  | v :: r, o, cur, h => by
    simp only [List.length_cons] at h
    rw [World.setCells, World.setCell_alloc_new, setCells_alloc W e r (o + 1) _ (by simp; omega)]
    congr 2
    apply congrArg
    have hs : (cur.setIfInBounds o v).toList = cur.toList.set o v := by simp
    have hl : o < cur.toList.length := by simp; omega
    have ht : (cur.toList.take o).length = o := by simp; omega
    rw [hs, List.set_eq_take_append_cons_drop, if_pos hl]
    have e1 : (cur.toList.take o ++ v :: cur.toList.drop (o + 1)).take (o + 1) = cur.toList.take o ++ [v] := by
      rw [List.take_append, ht, List.take_of_length_le (by omega), show o + 1 - o = 1 by omega]; rfl
    have e2 : (cur.toList.take o ++ v :: cur.toList.drop (o + 1)).drop (o + 1 + r.length) = cur.toList.drop (o + (v :: r).length) := by
      rw [List.drop_append, ht, List.drop_of_length_le (by omega), List.nil_append, show o + 1 + r.length - o = r.length + 1 by omega, List.drop_succ_cons, List.drop_drop, List.length_cons]
      congr 1; omega
    rw [e1, e2]
    simp

/-- copy(b, s): into a row that was made last. -/
def strCopy (args : Array Value) : Sem Value := Builtin.copy_ #[138, 9] 3 args
theorem strCopy_eq (args : Array Value) : Builtin.copy_ #[138, 9] 3 args = strCopy args := rfl

theorem bcells_extract (s : ByteArray) (n : Nat) : ((s.extract 0 n).data.map fun b => Value.int .u8 (b.toNat : Int)).toList = (bcells s).take n := by
  simp [bcells, ByteArray.data_extract]

theorem run_strCopy (W : World) (cur : Array Value) (n cap : Nat) (s : ByteArray) (hn : n ≤ cur.size) :
    (strCopy #[.slice (some ⟨W.heap.size, 0, none⟩) n cap, .string s]).run Tryz.prog (W.alloc (.cells cur 5)) = .ok (.int .i64 (Nat.min s.size n : Nat)) (W.alloc (.cells ((bcells s).take n ++ cur.toList.drop ((bcells s).take n).length).toArray 5)) := by
  have hb := heap_alloc_last W (.cells cur 5)
  have hl : ((bcells s).take (Nat.min s.size n)) = (bcells s).take n := by
    apply List.ext_getElem?
    intro i
    rw [List.getElem?_take, List.getElem?_take]
    have hlen := bcells_length s
    by_cases h1 : i < n
    · by_cases h2 : i < s.size
      · rw [if_pos h1, if_pos (by have := Nat.lt_min.2 ⟨h2, h1⟩; exact this)]
      · rw [if_pos h1, List.getElem?_eq_none (by omega)]; split <;> rfl
    · rw [if_neg h1, if_neg (by intro h; have : i < n := Nat.lt_of_lt_of_le h (Nat.min_le_right _ _); omega)]
  have hlen : ((bcells s).take n).length ≤ cur.size := by rw [List.length_take]; have := Nat.min_le_left n (bcells s).length; omega
  have hsz : ∀ W', (sizeOf 5).run Tryz.prog W' = .ok 1 W' := fun W' => run_sizeOf W' (by kernel_rfl)
  have hst := run_storeCells_cells (P := Tryz.prog) W.heap.size 0 ((bcells s).take n) 0 (W.alloc (.cells cur 5))
    (fun j hj => by rw [cell_of_heap hb]; have : 0 + 0 + j < cur.size := by omega
                    simp only [Array.getElem?_eq_getElem this]; rfl)
    (fun j _ => frozen_of_heap hb) (fun v hv => bcells_one s v (List.mem_of_mem_take hv))
  rw [setCells_alloc W 5 _ _ _ (by omega)] at hst
  simp only [List.take_zero, List.nil_append, Nat.zero_add] at hst
  unfold strCopy Builtin.copy_
  simp [run_underlying Tryz.underlying138, Builtin.lenOf, Builtin.firstCells, hsz, goInt]
  have hmap : List.map (fun b : UInt8 => Value.int .u8 (b.toNat : Int)) s.data.toList = bcells s := rfl
  rw [hmap, hl, hst]
  simp

def zs (n : Nat) : Array Value := Array.replicate n (.int .u8 0)
theorem run_makeBytes (W : World) (n : Nat) (h : n ≤ 281474976710656) : (Instr.makeSlice 138 (.int .i64 n) (.int .i64 n)).run Tryz.prog W = .ok (.slice (some ⟨W.heap.size, 0, none⟩) n n) (W.alloc (.cells (zs n) 5)) := by
  obtain ⟨i0, hi, hz0, hz1, hz2⟩ := info_parts infoU8
  have := run_make (P := Tryz.prog) W 138 5 i0 _ Tryz.underlying138 hi hz0 .i64 .i64 n n (by omega) (by omega) (by rw [hz2]; omega) (by omega)
  rw [this, hz1]
  have e : madeCells (Value.int .u8 0).cells ((n : Int).toNat * 1) = zs n := by
    apply Array.toList_inj.1
    show (madeCells (Array.replicate 1 (Value.int .u8 0)) _).toList = _
    rw [made_same _ 1 _ (by omega)]; simp [zs]
  rw [e]; simp

/-- The bytes of s, j marks behind them, and zeros up to eight. -/
def lentArr (s : ByteArray) (j : Nat) : Array Value := (bcells s ++ (List.replicate j (Value.int .u8 77) ++ List.replicate (8 - j) (Value.int .u8 0))).toArray
theorem lentArr_size (s : ByteArray) (j : Nat) (h : j ≤ 8) : (lentArr s j).size = s.size + 8 := by simp [lentArr, bcells_length]; omega
theorem lentArr_set (s : ByteArray) (j : Nat) (h : j < 8) : (lentArr s j).setIfInBounds (s.size + j) (.int .u8 77) = lentArr s (j + 1) := by
  apply Array.ext_getElem?
  intro i
  have hl := bcells_length s
  rw [Array.getElem?_setIfInBounds]
  simp only [lentArr_size s j (by omega)]
  unfold lentArr
  simp only [List.getElem?_toArray, List.getElem?_append, List.getElem?_replicate, List.length_replicate, hl]
  repeat' split
  all_goals first | rfl | (exfalso; omega)

theorem run_lentCopy (W : World) (s : ByteArray) : (strCopy #[.slice (some ⟨W.heap.size, 0, none⟩) (s.size + 8) (s.size + 8), .string s]).run Tryz.prog (W.alloc (.cells (zs (s.size + 8)) 5)) = .ok (.int .i64 (Nat.min s.size (s.size + 8) : Nat)) (W.alloc (.cells (lentArr s 0) 5)) := by
  rw [run_strCopy W (zs (s.size + 8)) (s.size + 8) (s.size + 8) s (by simp [zs])]
  congr 3
  unfold lentArr
  have hl := bcells_length s
  rw [List.take_of_length_le (by omega), hl]
  simp [zs]

attribute [local go_sem ↓] strCopy_eq

set_option maxRecDepth 100000 in
set_option maxHeartbeats 400000 in
theorem lentBytes_any (s : ByteArray) (w : World) (hs : s.size ≤ 140737488355328) :
    Calls Tryz.prog 189 #[.string s] w fun e w' => e = .returned (.slice (some ⟨w.heap.size, 0, none⟩) s.size (s.size + 8)) ∧ w' = w.alloc (.cells (lentArr s 8) 5) := by
  have hmk := run_makeBytes w (s.size + 8) (by omega)
  rw [show ((s.size + 8 : Nat) : Int) = (s.size : Int) + 8 by omega] at hmk
  have hcp := run_lentCopy w s
  have hlast := fun j => heap_alloc_last w (.cells (lentArr s j) 5)
  go_enter Tryz.func189, Tryz.ntmps189
  go_wp2
  go_loopw [5] (fun i wr => ∃ j : Nat, j ≤ 8 ∧ i = .int .i64 ((s.size : Int) + j) ∧ wr = w.alloc (.cells (lentArr s j) 5)) (fun i _ => (s.size + 8) - (intOf i).toNat)
  case atStart => exact ⟨0, by omega, by go_num, rfl⟩
  case round =>
    obtain ⟨j, hj, rfl, rfl⟩ := hrel
    by_cases hlt : j < 8
    · have hc := cell_of_heap (o := s.size + j) (hlast j)
      have hf := frozen_of_heap (o := s.size + j) (hlast j)
      rw [Array.getElem?_eq_getElem (by rw [lentArr_size s j (by omega)]; omega)] at hc
      have hset := lentArr_set s j hlt
      go_wp2
      go_roundw
      case rel => exact ⟨j + 1, by omega, by go_num, rfl⟩
      case measure => simp [intOf]; omega
    · go_wp2
      go_ret
      have : j = 8 := by omega
      subst this
      exact ⟨rfl, rfl⟩

end Go.Proofs.YthbmmbgkchiajaaGreat
