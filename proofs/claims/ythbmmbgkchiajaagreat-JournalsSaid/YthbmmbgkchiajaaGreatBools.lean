
/- Answers that are lent; are they whole? -/
import Derived.Test.YthbmmbgkchiajaaGreatWhole
import Derived.WalkLawsBesides
namespace Go.Proofs.YthbmmbgkchiajaaGreat
open Go.RowKit

def evenB (n : Int) : Bool := n % 2 == 0
def bmarks (n j : Nat) : List Value := (List.range j).map (fun t : Nat => Value.bool (evenB ((n : Int) + (t : Int))))
def lentB (bs : List Bool) (j : Nat) : Array Value := (bs.map Value.bool ++ (bmarks bs.length j ++ List.replicate (8 - j) (Value.bool false))).toArray
theorem lentB_size (bs : List Bool) (j : Nat) (h : j ≤ 8) : (lentB bs j).size = bs.length + 8 := by simp [lentB, bmarks]; omega
theorem lentB_set (bs : List Bool) (j : Nat) (h : j < 8) : (lentB bs j).setIfInBounds (bs.length + j) (.bool (evenB ((bs.length : Int) + (j : Int)))) = lentB bs (j + 1) := by
  apply Array.ext_getElem?
  intro i
  rw [Array.getElem?_setIfInBounds]
  simp only [lentB_size bs j (by omega)]
  unfold lentB bmarks
  simp only [List.getElem?_toArray, List.getElem?_append, List.getElem?_replicate, List.length_map, List.length_range, List.getElem?_map]
  have hr : ∀ j k : Nat, (List.range j)[k]? = if k < j then some k else none := by
    intro j k
    by_cases h : k < j
    · rw [List.getElem?_range h, if_pos h]
    · rw [if_neg h, List.getElem?_eq_none (by simp; omega)]
  simp only [hr]
  by_cases h0 : i < bs.length
  · rw [if_neg (by omega), if_pos h0, if_pos h0]
  · rw [if_neg h0, if_neg h0]
    by_cases h1 : bs.length + j = i
    · subst h1
      have e : bs.length + j - bs.length = j := by omega
      simp only [e]
      rw [if_pos trivial, if_pos (by omega), if_pos (show j < j + 1 by omega), if_pos (show j < j + 1 by omega)]
      rfl
    · rw [if_neg h1]
      repeat' split
      all_goals first | rfl | (exfalso; omega)

theorem infoBool : (Tryz.prog.info? 4).map (fun i => (i.zero, i.size, i.bytes)) = some (some (.bool false), 1, 1) := by kernel_rfl
def zb (n : Nat) : Array Value := Array.replicate n (.bool false)
theorem run_makeBools (W : World) (n : Nat) (h : n ≤ 281474976710656) : (Instr.makeSlice 60 (.int .i64 n) (.int .i64 n)).run Tryz.prog W = .ok (.slice (some ⟨W.heap.size, 0, none⟩) n n) (W.alloc (.cells (zb n) 4)) := by
  obtain ⟨i0, hi, hz0, hz1, hz2⟩ := info_parts infoBool
  have := run_make (P := Tryz.prog) W 60 4 i0 _ Tryz.underlying60 hi hz0 .i64 .i64 n n (by omega) (by omega) (by rw [hz2]; omega) (by omega)
  rw [this, hz1]
  have e : madeCells (Value.bool false).cells ((n : Int).toNat * 1) = zb n := by
    apply Array.toList_inj.1
    show (madeCells (Array.replicate 1 (Value.bool false)) _).toList = _
    rw [made_same _ 1 _ (by omega)]; simp [zb]
  rw [e]; simp

/-- copy(out, l), of answers. -/
def boolCopy (args : Array Value) : Sem Value := Builtin.copy_ #[60, 60] 3 args
theorem boolCopy_eq (args : Array Value) : Builtin.copy_ #[60, 60] 3 args = boolCopy args := rfl

theorem run_boolCopy (W : World) (a : Addr) (cap : Nat) (bs : List Bool) (hr : ∀ j, j < bs.length → W.cell? (a.add j) = some (.bool (bs.getD j false))) :
    (boolCopy #[.slice (some ⟨W.heap.size, 0, none⟩) (bs.length + 8) (bs.length + 8), .slice (some a) bs.length cap]).run Tryz.prog (W.alloc (.cells (zb (bs.length + 8)) 4)) = .ok (.int .i64 (bs.length : Nat)) (W.alloc (.cells (lentB bs 0) 4)) := by
  have hb := heap_alloc_last W (.cells (zb (bs.length + 8)) 4)
  have hmin : Nat.min bs.length (bs.length + 8) = bs.length := Nat.min_eq_left (by omega)
  have hsz : ∀ W', (sizeOf 4).run Tryz.prog W' = .ok 1 W' := fun W' => run_sizeOf W' (by kernel_rfl)
  have hfc := run_firstCells_some (P := Tryz.prog) (W.alloc (.cells (zb (bs.length + 8)) 4)) 1 bs.length a bs.length cap (bs.map Value.bool) (by simp) (fun j v hj => by
    have hj' : j < bs.length := by have := (List.getElem?_eq_some_iff.1 hj).1; simpa using this
    have hc := hr j hj'
    rw [World.cell?_alloc_lt _ _ _ (World.block_lt_of_cell? W _ hc), hc]
    rw [List.getElem?_map, List.getElem?_eq_getElem hj'] at hj
    simp only [Option.map_some] at hj
    rw [← hj]
    simp [List.getD, hj'])
  have hst := run_storeCells_cells (P := Tryz.prog) W.heap.size 0 (bs.map Value.bool) 0 (W.alloc (.cells (zb (bs.length + 8)) 4))
    (fun j hj => by rw [cell_of_heap hb]; simp at hj; have : 0 + 0 + j < (zb (bs.length + 8)).size := by simp [zb]; omega
                    simp only [Array.getElem?_eq_getElem this]; rfl)
    (fun j _ => frozen_of_heap hb) (fun v hv => by simp only [List.mem_map] at hv; obtain ⟨b, _, rfl⟩ := hv; rfl)
  rw [setCells_alloc W 4 _ _ _ (by simp [zb])] at hst
  have harr : (List.take 0 (zb (bs.length + 8)).toList ++ bs.map Value.bool ++ List.drop (0 + (bs.map Value.bool).length) (zb (bs.length + 8)).toList).toArray = lentB bs 0 := by
    unfold lentB bmarks zb
    simp
  rw [harr] at hst
  unfold boolCopy Builtin.copy_
  simp [run_underlying Tryz.underlying60, Builtin.lenOf, hmin, hsz, hfc, hst, goInt]

theorem run_nilB (W : World) (a : Option Addr) (n c : Nat) : (binOp .eql 60 (.slice a n c) (.slice none 0 0)).run Tryz.prog W = .ok (.bool a.isNone) W := Lib.run_eql_slice_nil W 60 4 a n c 0 0 Tryz.underlying60

attribute [local go_sem ↓] boolCopy_eq

set_option maxRecDepth 100000 in
set_option maxHeartbeats 400000 in
theorem lentBools_nil (w : World) : Calls Tryz.prog 144 #[.slice none 0 0] w fun e w' => e = .returned (.slice none 0 0) ∧ w' = w := by
  have hnil := fun W => run_nilB W none 0 0
  go_enter Tryz.func144, Tryz.ntmps144
  go_wp2
  go_ret
  exact ⟨rfl, rfl⟩

set_option maxRecDepth 100000 in
set_option maxHeartbeats 400000 in
theorem lentBools_some (a : Addr) (cap : Nat) (bs : List Bool) (w : World) (hs : bs.length ≤ 140737488355328) (hr : ∀ j, j < bs.length → w.cell? (a.add j) = some (.bool (bs.getD j false))) :
    Calls Tryz.prog 144 #[.slice (some a) bs.length cap] w fun e w' => e = .returned (.slice (some ⟨w.heap.size, 0, none⟩) bs.length (bs.length + 8)) ∧ w' = w.alloc (.cells (lentB bs 8) 4) := by
  have hmk := run_makeBools w (bs.length + 8) (by omega)
  rw [show ((bs.length + 8 : Nat) : Int) = (bs.length : Int) + 8 by omega] at hmk
  have hcp := run_boolCopy w a cap bs hr
  have hnil := fun W => run_nilB W (some a) bs.length cap
  have hlast := fun j => heap_alloc_last w (.cells (lentB bs j) 4)
  clear hr
  go_enter Tryz.func144, Tryz.ntmps144
  go_wp2
  go_loopw [5] (fun i wr => ∃ j : Nat, j ≤ 8 ∧ i = .int .i64 ((bs.length : Int) + j) ∧ wr = w.alloc (.cells (lentB bs j) 4)) (fun i _ => (bs.length + 8) - (intOf i).toNat)
  case atStart => exact ⟨0, by omega, by go_num, rfl⟩
  case round =>
    obtain ⟨j, hj, rfl, rfl⟩ := hrel
    by_cases hlt : j < 8
    · have hc := cell_of_heap (o := bs.length + j) (hlast j)
      have hf := frozen_of_heap (o := bs.length + j) (hlast j)
      rw [Array.getElem?_eq_getElem (by rw [lentB_size bs j (by omega)]; omega)] at hc
      have hset := lentB_set bs j hlt
      unfold evenB at hset
      go_wp2
      go_roundw
      case rel => exact ⟨j + 1, by omega, by go_num, rfl⟩
      case measure => simp [intOf]; omega
    · go_wp2
      go_ret
      have : j = 8 := by omega
      subst this
      exact ⟨rfl, rfl⟩

theorem lentB_lo (bs : List Bool) (i : Nat) (h : i < bs.length) : (lentB bs 8)[i]? = some (.bool (bs.getD i false)) := by
  unfold lentB
  rw [List.getElem?_toArray, List.getElem?_append_left (by simpa using h), List.getElem?_map, List.getElem?_eq_getElem h]
  simp [List.getD, h]
theorem lentB_hi (bs : List Bool) (i : Nat) (h : bs.length ≤ i) (h2 : i < bs.length + 8) : (lentB bs 8)[i]? = some (.bool ((i : Int) % 2 == 0)) := by
  unfold lentB bmarks
  rw [List.getElem?_toArray, List.getElem?_append_right (by simpa using h), List.getElem?_append_left (by simp; omega), List.getElem?_map, List.length_map, List.getElem?_range (by omega)]
  simp only [Option.map_some, evenB]
  rw [show (bs.length : Int) + ((i - bs.length : Nat) : Int) = (i : Int) by omega]

set_option maxRecDepth 100000 in
set_option maxHeartbeats 400000 in
theorem wholeBools_nil (v : Value) (w : World) : Calls Tryz.prog 146 #[v, .slice none 0 0] w fun e w' => e = .returned (.bool true) ∧ w' = w := by
  have hnil := fun W => run_nilB W none 0 0
  go_enter Tryz.func146, Tryz.ntmps146
  go_wp2
  go_ret
  exact ⟨rfl, rfl⟩

set_option maxRecDepth 100000 in
set_option maxHeartbeats 1600000 in
theorem wholeBools_some (a : Addr) (cap g : Nat) (bs : List Bool) (w : World) (hs : bs.length ≤ 140737488355328) (_hcap : bs.length ≤ cap) (hr : ∀ j, j < bs.length → ∃ b o, a = ⟨b, o, none⟩ ∧ b ≠ g ∧ w.cell? ⟨b, o + j, none⟩ = some (.bool (bs.getD j false)))
    (hg : w.heap[g]? = some (.cells (lentB bs 8) 4 (0, 0))) :
    Calls Tryz.prog 146 #[.slice (some ⟨g, 0, none⟩) bs.length (bs.length + 8), .slice (some a) bs.length cap] w fun e w' => e = .returned (.bool true) ∧ Keeps (fun k => k = g) w w' := by
  have hnil := fun W => run_nilB W (some a) bs.length cap
  have hR0 : WholeRel w g (bs.length + 8) 4 (lentB bs 8) 0 w := ⟨_, hg, lentB_size bs 8 (by omega), fun _ _ => rfl, Keeps.refl _ _⟩
  have HR0 := hide hR0
  have HC := hide hr
  clear hR0 hr
  go_enter Tryz.func146, Tryz.ntmps146
  go_wp2
  go_loopw [7, 8] (fun o i wr => ∃ j : Nat, j ≤ bs.length + 8 ∧ i = .int .i64 j ∧ o = .bool true ∧ WholeRel w g (bs.length + 8) 4 (lentB bs 8) j wr) (fun _ i _ => (bs.length + 8) - (intOf i).toNat)
  case atStart => exact ⟨0, by omega, rfl, rfl, unhide HR0⟩
  case round =>
    obtain ⟨j, hj, rfl, rfl, hR⟩ := hrel
    have HR := hide hR
    obtain ⟨cur, q1, q2, q3, q4⟩ := hR
    by_cases hlt : j < bs.length + 8
    · have hc := cell_of_heap (o := j) q1
      have hf := frozen_of_heap (o := j) q1
      rw [q3 j (Nat.le_refl _)] at hc
      by_cases hn : j < bs.length
      · rw [lentB_lo bs j hn] at hc
        obtain ⟨b, o, rfl, hbg, hcl⟩ := unhide HC j hn
        have hbl := World.block_lt_of_cell? w _ hcl
        have hcl' : wr.cell? ⟨b, o + j, none⟩ = some (.bool (bs.getD j false)) := (q4.cell (p := ⟨b, o + j, none⟩) hbl (fun e => hbg e)).trans hcl
        generalize bs.getD j false = bb at *
        cases bb <;>
        · go_wp2
          go_roundw
          case rel => exact ⟨j + 1, by omega, by go_num, rfl, whole_step (unhide HR) _⟩
          case measure => simp [intOf]; omega
      · rw [lentB_hi bs j (by omega) hlt] at hc
        obtain ⟨bb, hbb⟩ : ∃ bb, ((j : Int) % 2 == 0) = bb := ⟨_, rfl⟩
        rw [hbb] at hc
        cases bb <;>
        · go_wp2
          go_roundw
          case rel => exact ⟨j + 1, by omega, by go_num, rfl, whole_step (unhide HR) _⟩
          case measure => simp [intOf]; omega
    · go_wp2
      go_ret
      exact ⟨rfl, q4⟩

end Go.Proofs.YthbmmbgkchiajaaGreat
