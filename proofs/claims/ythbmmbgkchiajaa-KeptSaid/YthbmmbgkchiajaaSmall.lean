
/- The small functions: what each returns, in whatever world. -/
import Derived.Test.YthbmmbgkchiajaaBase
namespace Go.Proofs.Ythbmmbgkchiajaa
open Go.RowKit

theorem ret_bool {a b : Bool} (h : a = b) : Ending.returned (.bool a) = .returned (.bool b) := by rw [h]
theorem ret_int {k : IntKind} {a b : Int} (h : a = b) : Ending.returned (.int k a) = .returned (.int k b) := by rw [h]

def pickOf (c : Int) (n : Nat) : Nat := ((if c < 0 then -(c + 1) else c) % (n : Int)).toNat
theorem pickOf_lt (c : Int) (n : Nat) (hn : 0 < n) : pickOf c n < n := by
  unfold pickOf
  have h1 := Int.emod_nonneg (if c < 0 then -(c + 1) else c) (b := (n : Int)) (by omega)
  have h2 := Int.emod_lt_of_pos (if c < 0 then -(c + 1) else c) (b := (n : Int)) (by omega)
  omega

set_option maxHeartbeats 400000 in
theorem pick_any (c : Int) (n : Nat) (w : World) (h0 : -9223372036854775808 ≤ c) (h1 : c ≤ 9223372036854775807) (hn : 0 < n) (hn' : n ≤ 9223372036854775807) :
    Calls Try.prog 4 #[.int .i64 c, .int .i64 n] w fun e w' => e = .returned (.int .i64 (pickOf c n)) ∧ w' = w := by
  have hn0 : (1 : Int) ≤ (n : Int) := by omega
  by_cases hc : c < 0
  · have hp : ((pickOf c n : Nat) : Int) = (-(c + 1)) % (n : Int) := by
      unfold pickOf; rw [if_pos hc, Int.toNat_of_nonneg (Int.emod_nonneg _ (by omega))]
    have HP : Hid (((pickOf c n : Nat) : Int) = (-(c + 1)) % (n : Int)) := hp
    clear hp
    go_enter Try.func4, Try.ntmps4
    go_wp2
    go_ret
    exact ⟨ret_int (by rw [HP.out, ← Int.neg_tmod, Int.tmod_eq_emod_of_nonneg (by omega)]), rfl⟩
  · have hp : ((pickOf c n : Nat) : Int) = c % (n : Int) := by
      unfold pickOf; rw [if_neg hc, Int.toNat_of_nonneg (Int.emod_nonneg _ (by omega))]
    have HP : Hid (((pickOf c n : Nat) : Int) = c % (n : Int)) := hp
    clear hp
    go_enter Try.func4, Try.ntmps4
    go_wp2
    go_ret
    exact ⟨ret_int HP.out.symm, rfl⟩

-- Disk.has: is i a sector?
set_option maxHeartbeats 400000 in
theorem has_yes (p n cap : Nat) (ao : Option Addr) (i : Nat) (w : World) (hc : w.cell? ⟨p, 0, none⟩ = some (.slice ao n cap)) (hi : i < n) (_hn : n ≤ 9223372036854775807) :
    Calls Try.prog 29 #[.pointer (some ⟨p, 0, none⟩), .int .i64 i] w fun e w' => e = .returned (.bool true) ∧ w' = w := by
  have h0 : decide ((0 : Int) ≤ (i : Int)) = true := by simp
  go_enter Try.func29, Try.ntmps29
  go_wp2
  go_ret
  exact ⟨by simp, rfl⟩

set_option maxHeartbeats 400000 in
theorem has_no (p n cap : Nat) (ao : Option Addr) (i : Int) (w : World) (hc : w.cell? ⟨p, 0, none⟩ = some (.slice ao n cap)) (hi : i < 0 ∨ (n : Int) ≤ i) (_hn : n ≤ 9223372036854775807) :
    Calls Try.prog 29 #[.pointer (some ⟨p, 0, none⟩), .int .i64 i] w fun e w' => e = .returned (.bool false) ∧ w' = w := by
  by_cases h : i < 0
  · have h0 : decide ((0 : Int) ≤ i) = false := by simp; omega
    clear hi
    go_enter Try.func29, Try.ntmps29
    go_wp2
    go_ret
    exact ⟨rfl, rfl⟩
  · have h0 : decide ((0 : Int) ≤ i) = true := by simp; omega
    have h1 : decide (i < (n : Int)) = false := by simp; omega
    clear hi
    go_enter Try.func29, Try.ntmps29
    go_wp2
    go_ret
    exact ⟨rfl, rfl⟩

def inB (zs : List Int) (k : Int) : Bool := zs.contains k
theorem inB_snoc (zs : List Int) (z k : Int) : inB (zs ++ [z]) k = (inB zs k || z == k) := by
  unfold inB
  simp only [List.contains_eq_any_beq, List.any_append, List.any_cons, List.any_nil, Bool.or_false]
  congr 1
  rw [Bool.eq_iff_iff]; simp; exact eq_comm
theorem inB_take (zs : List Int) (k : Int) (j : Nat) (h : inB (zs.take j) k = true) : inB zs k = true := by
  unfold inB at *
  rw [List.contains_iff_mem] at *
  exact List.mem_of_mem_take h
end Go.Proofs.Ythbmmbgkchiajaa
