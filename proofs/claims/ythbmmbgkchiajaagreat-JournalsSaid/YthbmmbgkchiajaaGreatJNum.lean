
/- Numbers in a sector. -/
import Derived.Test.YthbmmbgkchiajaaGreatJPure
import Derived.Test.YthbmmbgkchiajaaGreatDSync
namespace Go.Proofs.YthbmmbgkchiajaaGreat
open Go.RowKit

def orI (x y : Value) : Sem Value := binOp .or 3 x y
theorem orI_eq (x y : Value) : binOp .or 3 x y = orI x y := rfl
def shlI (x y : Value) : Sem Value := binOp .shl 3 x y
theorem shlI_eq (x y : Value) : binOp .shl 3 x y = shlI x y := rfl
def shrI (x y : Value) : Sem Value := binOp .shr 3 x y
theorem shrI_eq (x y : Value) : binOp .shr 3 x y = shrI x y := rfl

theorem pow256 (j : Nat) : (2 : Nat) ^ (8 * j) = 256 ^ j := by rw [Nat.pow_mul]

theorem mod_step (n j : Nat) : n % 256 ^ (j + 1) = n % 256 ^ j + n / 256 ^ j % 256 * 256 ^ j := by
  rw [Nat.pow_succ, Nat.mod_mul, Nat.mul_comm (256 ^ j)]

theorem pow256_le (j : Nat) (h : j ≤ 7) : 256 ^ j ≤ 72057594037927936 := by
  have : (256 : Nat) ^ j ≤ 256 ^ 7 := Nat.pow_le_pow_right (by omega) h
  exact this

theorem run_shlI (W : World) (n j : Nat) (hj : j < 8) (hn : n < 9223372036854775808) : (shlI (.int .i64 ((n / 256 ^ j % 256 : Nat) : Int)) (.int .i64 (8 * (j : Int)))).run Tryz.prog W = .ok (.int .i64 ((n / 256 ^ j % 256 * 256 ^ j : Nat) : Int)) W := by
  have e : min (8 * (j : Int)).toNat IntKind.i64.bits = 8 * j := by
    show min _ 64 = _
    omega
  have hlt : n / 256 ^ j % 256 * 256 ^ j < 9223372036854775808 := by
    have h1 := mod_step n j
    have h2 := Nat.mod_le n (256 ^ (j + 1))
    omega
  unfold shlI binOp Op.shift
  simp only
  rw [if_neg (by omega), e]
  show (pure (Value.int .i64 (IntKind.i64.wrap _)) : Sem Value).run _ _ = _
  have e2 : ((n / 256 ^ j % 256 : Nat) : Int) * 2 ^ (8 * j) = ((n / 256 ^ j % 256 * 256 ^ j : Nat) : Int) := by
    rw [← pow256, Int.natCast_mul, Int.natCast_pow]; rfl
  rw [e2, IntWalk.i64_in _ ⟨by omega, by omega⟩]
  rfl

theorem run_shrI (W : World) (n j : Nat) (hj : j < 8) : (shrI (.int .i64 (n : Int)) (.int .i64 (8 * (j : Int)))).run Tryz.prog W = .ok (.int .i64 ((n / 256 ^ j : Nat) : Int)) W := by
  have e : min (8 * (j : Int)).toNat IntKind.i64.bits = 8 * j := by
    show min _ 64 = _
    omega
  unfold shrI binOp Op.shift
  simp only
  rw [if_neg (by omega), e]
  show (pure (Value.int .i64 ((n : Int).fdiv (2 ^ (8 * j)))) : Sem Value).run _ _ = _
  have e2 : (n : Int).fdiv (2 ^ (8 * j)) = ((n / 256 ^ j : Nat) : Int) := by
    have e3 : (2 : Int) ^ (8 * j) = ((256 ^ j : Nat) : Int) := by rw [← pow256, Int.natCast_pow]; rfl
    rw [e3, Int.fdiv_eq_ediv_of_nonneg _ (Int.natCast_nonneg _)]; rfl
  rw [e2]; rfl

theorem run_orI (W : World) (n j : Nat) (hn : n < 9223372036854775808) : (orI (.int .i64 ((n % 256 ^ j : Nat) : Int)) (.int .i64 ((n / 256 ^ j % 256 * 256 ^ j : Nat) : Int))).run Tryz.prog W = .ok (.int .i64 ((n % 256 ^ (j + 1) : Nat) : Int)) W := by
  have h1 := mod_step n j
  have h2 := Nat.mod_le n (256 ^ (j + 1))
  have h3 : n % 256 ^ j < 256 ^ j := Nat.mod_lt _ (Nat.pow_pos (by omega))
  have h4 : n / 256 ^ j % 256 * 256 ^ j ||| n % 256 ^ j = n % 256 ^ (j + 1) := by
    have := Nat.shiftLeft_add_eq_or_of_lt (i := 8 * j) (b := n % 256 ^ j) (by rw [pow256]; exact h3) (n / 256 ^ j % 256)
    rw [Nat.shiftLeft_eq, pow256] at this
    rw [← this, h1, Nat.add_comm]
  unfold orI binOp Op.intBits
  simp only [ne_eq, not_true_eq_false, if_false]
  show (pure (Value.int .i64 (IntKind.i64.wrap _)) : Sem Value).run _ _ = _
  have e : (BitVec.ofInt IntKind.i64.bits ((n % 256 ^ j : Nat) : Int) ||| BitVec.ofInt IntKind.i64.bits ((n / 256 ^ j % 256 * 256 ^ j : Nat) : Int)).toNat = n % 256 ^ (j + 1) := by
    show (BitVec.ofInt 64 _ ||| BitVec.ofInt 64 _).toNat = _
    rw [BitVec.toNat_or, BitVec.ofInt_natCast, BitVec.ofInt_natCast, BitVec.toNat_ofNat, BitVec.toNat_ofNat, Nat.mod_eq_of_lt (a := n % 256 ^ j) (b := 2 ^ 64) (by omega), Nat.mod_eq_of_lt (a := n / 256 ^ j % 256 * 256 ^ j) (b := 2 ^ 64) (by omega), Nat.or_comm]
    exact h4
  rw [e, IntWalk.i64_in _ ⟨by omega, by omega⟩]
  rfl

attribute [local go_sem ↓] orI_eq shlI_eq shrI_eq

/-- The bytes of a number in memory. -/
def NumAt (W : World) (b o n : Nat) : Prop := ∀ i, i < 8 → W.cell? ⟨b, o + i, none⟩ = some (.int .u8 ((n / 256 ^ i % 256 : Nat) : Int))

set_option maxRecDepth 100000 in
set_option maxHeartbeats 400000 in
theorem number_any (b o len cap n : Nat) (w : World) (hn : n < 9223372036854775808) (hlen : 8 ≤ len) (hl64 : len ≤ 64) (hN : NumAt w b o n) :
    Calls Tryz.prog 293 #[.slice (some ⟨b, o, none⟩) len cap] w fun e w' => e = .returned (.int .i64 (n : Int)) ∧ w' = w := by
  have HN := hide hN
  clear hN
  go_enter Tryz.func293, Tryz.ntmps293
  go_wp2
  go_loop [3, 5] (fun v i => ∃ j x : Nat, j ≤ 8 ∧ i = .int .i64 j ∧ v = .int .i64 (x : Int) ∧ Hid (x = n % 256 ^ j)) (fun _ i => 8 - (intOf i).toNat)
  case atStart => exact ⟨0, 0, by omega, rfl, rfl, hide (by simp [Nat.mod_one])⟩
  case round =>
    obtain ⟨j, x, hj, rfl, rfl, HX⟩ := hrel
    by_cases hlt : j < 8
    · have hcj := unhide HN j hlt
      have h1 := run_shlI w n j hlt hn
      have h2 := run_orI w n j hn
      rw [← unhide HX] at h2
      obtain ⟨y, HY⟩ : ∃ y, Hid (y = n % 256 ^ (j + 1)) := ⟨_, hide rfl⟩
      rw [← unhide HY] at h2
      generalize n / 256 ^ j % 256 * 256 ^ j = t at h1 h2
      have hc8 : n / 256 ^ j % 256 < 256 := Nat.mod_lt _ (by omega)
      generalize n / 256 ^ j % 256 = c at h1 hcj hc8
      have h0 : (0 : Int) ≤ (j : Int) := Int.natCast_nonneg _
      have hlt' : (j : Int) < (len : Int) := by omega
      go_wp2
      go_round
      case rel => exact ⟨j + 1, y, by omega, by go_num, rfl, HY⟩
      case measure => simp [intOf]; omega
    · have HJ := hide (show j = 8 by omega)
      go_wp2
      go_ret
      refine ⟨ret_int ?_, rfl⟩
      rw [unhide HX, unhide HJ, Nat.mod_eq_of_lt (by omega)]

def byteCell (n i : Nat) : Value := .int .u8 ((n / 256 ^ i % 256 : Nat) : Int)

def toU8 (x : Value) : Sem Value := convert 3 5 x
theorem toU8_eq (x : Value) : convert 3 5 x = toU8 x := rfl
theorem run_toU8 (W : World) (x : Nat) : (toU8 (.int .i64 (x : Int))).run Tryz.prog W = .ok (.int .u8 ((x % 256 : Nat) : Int)) W := by
  unfold toU8
  simp [go_sem, Tryz.underlying3, Tryz.underlying5]
  rw [IntKind.wrap_u8]
attribute [local go_sem ↓] toU8_eq

/-- Behind j stores. -/
def PutRel (b o n : Nat) (cs : Array Value) (t : TypeId) (w : World) (j : Nat) (wr : World) : Prop :=
  ∃ cs' : Array Value, wr.heap[b]? = some (.cells cs' t (0, 0)) ∧ cs'.size = cs.size ∧ (∀ k, cs'[k]? = if o ≤ k ∧ k < o + j then some (byteCell n (k - o)) else cs[k]?) ∧ Keeps (fun k => k = b) w wr

theorem PutRel.step {b o n j : Nat} {cs : Array Value} {t : TypeId} {w wr : World} (h : PutRel b o n cs t w j wr) (ho : o + j < cs.size) : PutRel b o n cs t w (j + 1) (wr.setCell ⟨b, o + j, none⟩ (byteCell n j)) := by
  obtain ⟨cs', h1, h2, h3, h4⟩ := h
  refine ⟨cs'.setIfInBounds (o + j) (byteCell n j), heap_setCell_same h1 _, by simp [h2], fun k => ?_, h4.setCell (p := ⟨b, o + j, none⟩) (.inl rfl) _⟩
  rw [Array.getElem?_setIfInBounds]
  by_cases e : o + j = k
  · subst e
    rw [if_pos rfl, if_pos (by omega), if_pos ⟨by omega, by omega⟩, Nat.add_sub_cancel_left]
  · rw [if_neg e, h3 k]
    by_cases hk : o ≤ k ∧ k < o + j
    · rw [if_pos hk, if_pos ⟨hk.1, by omega⟩]
    · rw [if_neg hk, if_neg (by omega)]

set_option maxRecDepth 100000 in
set_option maxHeartbeats 400000 in
theorem putNumber_any (b o len cap n : Nat) (cs : Array Value) (t : TypeId) (w : World) (_hn : n < 9223372036854775808) (hlen : 8 ≤ len) (hl64 : len ≤ 64) (hb : w.heap[b]? = some (.cells cs t (0, 0))) (hsz : o + 8 ≤ cs.size) :
    Calls Tryz.prog 294 #[.slice (some ⟨b, o, none⟩) len cap, .int .i64 (n : Int)] w fun e w' => e = .returned (.tuple #[]) ∧ PutRel b o n cs t w 8 w' := by
  have HR0 : Hid (PutRel b o n cs t w 0 w) := hide ⟨cs, hb, rfl, fun k => by rw [if_neg (by omega)], Keeps.refl _ _⟩
  have HSZ := hide hsz
  clear hb hsz
  go_enter Tryz.func294, Tryz.ntmps294
  go_wp2
  go_loopw [5] (fun i wr => ∃ j : Nat, j ≤ 8 ∧ i = .int .i64 j ∧ Hid (PutRel b o n cs t w j wr)) (fun i _ => 8 - (intOf i).toNat)
  case atStart => exact ⟨0, by omega, rfl, HR0⟩
  case round =>
    obtain ⟨j, hj, rfl, HR⟩ := hrel
    by_cases hlt : j < 8
    · obtain ⟨cs', q1, q2, q3, q4⟩ := unhide HR
      have hsz := unhide HSZ
      have hc : ∃ u, wr.cell? ⟨b, o + j, none⟩ = some u := ⟨cs'[o + j]'(by omega), by rw [cell_of_heap q1]; exact Array.getElem?_eq_getElem (by omega)⟩
      obtain ⟨u, hc⟩ := hc
      have hf := frozen_of_heap (o := o + j) q1
      have h1 := run_shrI wr n j hlt
      have h2 := run_toU8 wr (n / 256 ^ j)
      obtain ⟨v, HV⟩ : ∃ v, Hid (v = n / 256 ^ j % 256) := ⟨_, hide rfl⟩
      rw [← unhide HV] at h2
      generalize n / 256 ^ j = y at h1 h2
      have h0 : (0 : Int) ≤ (j : Int) := Int.natCast_nonneg _
      have hlt' : (j : Int) < (len : Int) := by omega
      clear q1 q2 q3 q4 hsz
      go_wp2
      go_roundw
      case rel =>
        refine ⟨j + 1, by omega, by go_num, hide ?_⟩
        have e : Value.int .u8 (v : Int) = byteCell n j := by rw [unhide HV]; rfl
        rw [e]
        exact (unhide HR).step (by have := unhide HSZ; omega)
      case measure => simp [intOf]; omega
    · have HJ := hide (show j = 8 by omega)
      go_wp2
      go_end0
      refine ⟨rfl, ?_⟩
      have := unhide HR
      rw [unhide HJ] at this
      exact this

theorem numB_cells (n : Nat) : (numB n).map (fun b => Value.int .u8 (b.toNat : Int)) = (List.range 8).map (byteCell n) := by
  have e : ∀ x : Nat, ((UInt8.ofNat x).toNat : Int) = ((x % 256 : Nat) : Int) := fun x => rfl
  simp only [numB, List.map_cons, List.map_nil, e, show List.range 8 = [0, 1, 2, 3, 4, 5, 6, 7] from rfl, byteCell]
  simp

theorem PutRel.list {b o n : Nat} {cs : Array Value} {t : TypeId} {w wr : World} (h : PutRel b o n cs t w 8 wr) (ho : o + 8 ≤ cs.size) :
    wr.heap[b]? = some (.cells (cs.toList.take o ++ (List.range 8).map (byteCell n) ++ cs.toList.drop (o + 8)).toArray t (0, 0)) ∧ Keeps (fun k => k = b) w wr := by
  obtain ⟨cs', h1, h2, h3, h4⟩ := h
  refine ⟨?_, h4⟩
  rw [h1]
  congr 2
  apply Array.ext_getElem?
  intro k
  have key : ∀ l : List Value, l.toArray[k]? = l[k]? := fun l => by simp
  rw [h3 k, key (cs.toList.take o ++ (List.range 8).map (byteCell n) ++ cs.toList.drop (o + 8))]
  have ht : (cs.toList.take o).length = o := by simp; omega
  by_cases h0 : k < o
  · rw [if_neg (by omega), List.append_assoc, List.getElem?_append_left (by omega), List.getElem?_take, if_pos h0]; simp
  · by_cases h8 : k < o + 8
    · rw [if_pos ⟨by omega, h8⟩, List.append_assoc, List.getElem?_append_right (by omega), ht, List.getElem?_append_left (by simp; omega), List.getElem?_map, List.getElem?_range (by omega)]; rfl
    · rw [if_neg (by omega), List.append_assoc, List.getElem?_append_right (by omega), ht, List.getElem?_append_right (by simp; omega), List.length_map, List.length_range, List.getElem?_drop]
      simp only [Array.getElem?_toList]
      congr 1; omega

end Go.Proofs.YthbmmbgkchiajaaGreat
