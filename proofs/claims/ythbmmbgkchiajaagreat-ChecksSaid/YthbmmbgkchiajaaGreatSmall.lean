
/- The small functions: what each returns, in whatever world. -/
import Derived.Test.YthbmmbgkchiajaaGreatBase
namespace Go.Proofs.YthbmmbgkchiajaaGreat
open Go.RowKit

set_option maxHeartbeats 400000 in
theorem markByte_any (n : Nat) (w : World) (hn : n ≤ 9223372036854775807) :
    Calls Tryz.prog 81 #[.int .i64 n] w fun e w' => e = .returned (.int .u8 (200 + n / 4 % 50)) ∧ w' = w := by
  go_enter Tryz.func81, Tryz.ntmps81
  go_wp2
  go_ret
  exact ⟨rfl, rfl⟩

theorem ret_bool {a b : Bool} (h : a = b) : Ending.returned (.bool a) = .returned (.bool b) := by rw [h]
theorem ret_int {k : IntKind} {a b : Int} (h : a = b) : Ending.returned (.int k a) = .returned (.int k b) := by rw [h]

def pickOf (c : Int) (n : Nat) : Nat := ((if c < 0 then -(c + 1) else c) % (n : Int)).toNat
theorem pickOf_lt (c : Int) (n : Nat) (hn : 0 < n) : pickOf c n < n := by
  unfold pickOf
  have h1 := Int.emod_nonneg (if c < 0 then -(c + 1) else c) (b := (n : Int)) (by omega)
  have h2 := Int.emod_lt_of_pos (if c < 0 then -(c + 1) else c) (b := (n : Int)) (by omega)
  omega

set_option maxHeartbeats 400000 in
theorem pick_any (c : Int) (n : Nat) (w : World) (h0 : -9223372036854775808 ≤ c) (h1 : c ≤ 9223372036854775807) (hn : 0 < n) (hn' : n ≤ 9223372036854775807) :
    Calls Tryz.prog 75 #[.int .i64 c, .int .i64 n] w fun e w' => e = .returned (.int .i64 (pickOf c n)) ∧ w' = w := by
  have hn0 : (1 : Int) ≤ (n : Int) := by omega
  by_cases hc : c < 0
  · have hp : ((pickOf c n : Nat) : Int) = (-(c + 1)) % (n : Int) := by
      unfold pickOf; rw [if_pos hc, Int.toNat_of_nonneg (Int.emod_nonneg _ (by omega))]
    have HP : Hid (((pickOf c n : Nat) : Int) = (-(c + 1)) % (n : Int)) := hp
    clear hp
    go_enter Tryz.func75, Tryz.ntmps75
    go_wp2
    go_ret
    exact ⟨ret_int (by rw [HP.out, ← Int.neg_tmod, Int.tmod_eq_emod_of_nonneg (by omega)]), rfl⟩
  · have hp : ((pickOf c n : Nat) : Int) = c % (n : Int) := by
      unfold pickOf; rw [if_neg hc, Int.toNat_of_nonneg (Int.emod_nonneg _ (by omega))]
    have HP : Hid (((pickOf c n : Nat) : Int) = c % (n : Int)) := hp
    clear hp
    go_enter Tryz.func75, Tryz.ntmps75
    go_wp2
    go_ret
    exact ⟨ret_int HP.out.symm, rfl⟩

-- Disk.has: is i a sector?
set_option maxHeartbeats 400000 in
theorem has_yes (p n cap : Nat) (ao : Option Addr) (i : Nat) (w : World) (hc : w.cell? ⟨p, 0, none⟩ = some (.slice ao n cap)) (hi : i < n) (_hn : n ≤ 9223372036854775807) :
    Calls Tryz.prog 254 #[.pointer (some ⟨p, 0, none⟩), .int .i64 i] w fun e w' => e = .returned (.bool true) ∧ w' = w := by
  have h0 : decide ((0 : Int) ≤ (i : Int)) = true := by simp
  go_enter Tryz.func254, Tryz.ntmps254
  go_wp2
  go_ret
  exact ⟨by simp, rfl⟩

set_option maxHeartbeats 400000 in
theorem has_no (p n cap : Nat) (ao : Option Addr) (i : Int) (w : World) (hc : w.cell? ⟨p, 0, none⟩ = some (.slice ao n cap)) (hi : i < 0 ∨ (n : Int) ≤ i) (_hn : n ≤ 9223372036854775807) :
    Calls Tryz.prog 254 #[.pointer (some ⟨p, 0, none⟩), .int .i64 i] w fun e w' => e = .returned (.bool false) ∧ w' = w := by
  by_cases h : i < 0
  · have h0 : decide ((0 : Int) ≤ i) = false := by simp; omega
    clear hi
    go_enter Tryz.func254, Tryz.ntmps254
    go_wp2
    go_ret
    exact ⟨rfl, rfl⟩
  · have h0 : decide ((0 : Int) ≤ i) = true := by simp; omega
    have h1 : decide (i < (n : Int)) = false := by simp; omega
    clear hi
    go_enter Tryz.func254, Tryz.ntmps254
    go_wp2
    go_ret
    exact ⟨rfl, rfl⟩

set_option maxHeartbeats 400000 in
theorem dPending_any (p n cap : Nat) (ao : Option Addr) (w : World) (hc : w.cell? ⟨p, 1, none⟩ = some (.slice ao n cap)) :
    Calls Tryz.prog 178 #[.pointer (some ⟨p, 0, none⟩)] w fun e w' => e = .returned (.int .i64 n) ∧ w' = w := by
  go_enter Tryz.func178, Tryz.ntmps178
  go_wp2
  go_ret
  exact ⟨rfl, rfl⟩

set_option maxHeartbeats 400000 in
theorem dSyncs_any (p : Nat) (n : Int) (w : World) (hc : w.cell? ⟨p, 2, none⟩ = some (.int .i64 n)) :
    Calls Tryz.prog 197 #[.pointer (some ⟨p, 0, none⟩)] w fun e w' => e = .returned (.int .i64 n) ∧ w' = w := by
  go_enter Tryz.func197, Tryz.ntmps197
  go_wp2
  go_ret
  exact ⟨rfl, rfl⟩

def inB (zs : List Int) (k : Int) : Bool := zs.contains k
theorem inB_snoc (zs : List Int) (z k : Int) : inB (zs ++ [z]) k = (inB zs k || z == k) := by
  unfold inB
  simp only [List.contains_eq_any_beq, List.any_append, List.any_cons, List.any_nil, Bool.or_false]
  congr 1
  rw [Bool.eq_iff_iff]; simp; exact eq_comm
theorem inB_take (zs : List Int) (k : Int) (j : Nat) (h : inB (zs.take j) k = true) : inB zs k = true := by
  unfold inB at *
  rw [List.contains_iff_mem] at *
  exact List.mem_of_mem_take h
-- among: does k stand among the numbers?
set_option maxHeartbeats 400000 in
theorem among_any (b len cap : Nat) (zs : List Int) (k : Int) (w : World) (hz : zs.length = len) (hlen : len ≤ 1000) (_hcap : len ≤ cap)
    (hc : ∀ j, j < zs.length → w.cell? ⟨b, j, none⟩ = some (.int .i64 (zs.getD j 0))) :
    Calls Tryz.prog 38 #[.slice (some ⟨b, 0, none⟩) len cap, .int .i64 k] w fun e w' => e = .returned (.bool (inB zs k)) ∧ w' = w := by
  go_enter Tryz.func38, Tryz.ntmps38
  go_wp2
  go_loop [5] (fun i => ∃ j : Nat, j ≤ len ∧ i = .int .i64 j ∧ inB (zs.take j) k = false) (fun i => len - (intOf i).toNat)
  case atStart => exact ⟨0, Nat.zero_le _, rfl, rfl⟩
  case round =>
    obtain ⟨j, hj, rfl, hno⟩ := hrel
    have HN : Hid (inB (zs.take j) k = false) := hno
    clear hno
    by_cases hlt : j < len
    · have hcj := hc j (by omega)
      have hs : zs.take (j + 1) = zs.take j ++ [zs.getD j 0] := by
        rw [List.take_succ_eq_append_getElem (by omega)]; simp [List.getD, show j < zs.length by omega]
      have HS : Hid (inB (zs.take (j + 1)) k = (inB (zs.take j) k || zs.getD j 0 == k)) := by rw [hs]; exact inB_snoc _ _ _
      clear hs hc
      generalize zs.getD j 0 = z at *
      by_cases he : z = k
      · have hb : (z == k) = true := by simpa using he
        have HB : Hid ((z == k) = true) := hb
        clear _hcap
        subst he
        go_wp2
        go_ret
        exact ⟨ret_bool (inB_take zs z (j + 1) (by rw [HS.out, HB.out]; simp)).symm, rfl⟩
      · have hb : (z == k) = false := by simpa using he
        have HB : Hid ((z == k) = false) := hb
        go_wp2
        go_round
        case rel => exact ⟨j + 1, by omega, by go_num, by rw [HS.out, HN.out, HB.out]; rfl⟩
        case measure => simp [intOf]; omega
    · have HT : Hid (zs.take j = zs) := List.take_of_length_le (by omega)
      go_wp2
      go_ret
      exact ⟨ret_bool (by rw [← HT.out]; exact HN.out.symm), rfl⟩

end Go.Proofs.YthbmmbgkchiajaaGreat
