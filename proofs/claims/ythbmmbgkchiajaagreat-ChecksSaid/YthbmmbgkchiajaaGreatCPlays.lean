
/- The script that checks. -/
import Derived.Test.YthbmmbgkchiajaaGreatCStep
import Derived.Test.YthbmmbgkchiajaaGreatTop
namespace Go.Proofs.YthbmmbgkchiajaaGreat
open Go.RowKit

theorem inB_one (k : Int) (h : inB [20] k = true) : k = 20 := by
  unfold inB at h
  rw [List.contains_iff_mem] at h
  simpa using h

set_option maxRecDepth 100000 in
set_option maxHeartbeats 1600000 in
theorem plays_checks (w : World) (ac : Option Addr) (nc cc : Nat) (ao : Option Addr) (n cap bp : Nat) (hcap : n ≤ cap) (hF : Few n) (hnc : nc ≤ 9223372036854775807) (hcc : nc ≤ cc) (hC : ∀ i, i < nc → CfgAt w.heap.size w ac i) (hS : ∀ i, i < n → OpAt w.heap.size w ao i) (hbp : bp < w.heap.size) (hP : ∀ j, j < [20].length → w.cell? ⟨bp, j, none⟩ = some (.int .i64 (([20] : List Int).getD j 0))) :
    Calls Tryz.prog 14 #[.slice ac nc cc, .slice ao n cap, .slice (some ⟨bp, 0, none⟩) 1 1] w fun e w' => e = .returned (.bool true) ∧ Keeps (fun k => w.heap.size ≤ k) w w' := by
  have hnN := few_N n hF
  have HS := hide hS
  have HCF := hide hC
  have HP := hide hP
  have HF := hide hF
  have HI0 := hide (start_inv w (.slice ac nc cc))
  clear hS hP hF hC
  go_enter Tryz.func14, Tryz.ntmps14
  go_wp2
  go_loopw [8] (fun i wr => ∃ j : Nat, j ≤ n ∧ i = .int .i64 j ∧ ∃ o, Inv w.heap.size o wr w.heap.size (.slice ac nc cc) j ∧ Keeps (fun k => w.heap.size ≤ k) w wr) (fun i _ => n - (intOf i).toNat)
  case atStart => exact ⟨0, Nat.zero_le _, rfl, _, unhide HI0, (Keeps.refl _ _).alloc _⟩
  case round =>
    obtain ⟨j, hj, rfl, o, hI, hk⟩ := hrel
    have hFj : Few j := Nat.le_trans (Nat.mul_le_mul_right 96 hj) (unhide HF)
    have HFJ := hide hFj
    have HI := hide hI
    clear hFj hI
    by_cases hlt : j < n
    · have hFj1 : Few (j + 1) := Nat.le_trans (Nat.mul_le_mul_right 96 hlt) (unhide HF)
      have HFJ1 := hide hFj1
      clear hFj1
      obtain ⟨gs, os, k, a, b, c, s, ka, kn, kc, pa, pn, pc, bs, rfl, hgs, e0, e1, e2, e3, e4, e5, e6, ha0, ha1, hO⟩ := unhide HS j hlt
      have q : ∀ x : Nat, wr.cell? ⟨gs, x, none⟩ = w.cell? ⟨gs, x, none⟩ := fun x => hk.cell (p := ⟨gs, x, none⟩) hgs (fun h => absurd hgs (Nat.not_lt.2 h))
      have f0 := (q _).trans e0
      have f1 := (q _).trans e1
      have f2 := (q _).trans e2
      have f3 := (q _).trans e3
      have f4 := (q _).trans e4
      have f5 := (q _).trans e5
      have f6 := (q _).trans e6
      have hsr := hk.size
      have hKA : Keeps (fun _ => False) wr (wr.alloc (.cells #[.int .i64 k, .int .i64 a, .int .i64 b, .int .i64 c, .string s, .slice ka kn kc, .slice pa pn pc] 81)) := (Keeps.refl _ _).alloc _
      have HIA := hide ((unhide HI).same hKA (fun _ _ _ f => f))
      have HO := hide ((hO.same hk (fun k hk' h => absurd hk' (Nat.not_lt.2 h)) (Nat.le_refl _)).same hKA (fun _ _ f => f) hsr)
      have hPr : ∀ i, i < [20].length → (wr.alloc (.cells #[.int .i64 k, .int .i64 a, .int .i64 b, .int .i64 c, .string s, .slice ka kn kc, .slice pa pn pc] 81)).cell? ⟨bp, i, none⟩ = some (.int .i64 (([20] : List Int).getD i 0)) := by
        intro i hi
        rw [hKA.cell (p := ⟨bp, i, none⟩) (by show bp < _; omega) (fun f => f), hk.cell (p := ⟨bp, i, none⟩) hbp (fun h => absurd hbp (Nat.not_lt.2 h))]
        exact unhide HP i hi
      have HPR := hide hPr
      have d1 : decide ((j : Int) < (n : Int)) = true := by simp; omega
      have d2 : decide ((j : Int) < 144115188075855872) = true := by simp; omega
      clear q e0 e1 e2 e3 e4 e5 e6 hPr hO
      have hkA := hk.trans hKA (fun _ _ f => f.elim)
      go_wp2_with fail
      refine (among_any bp 1 1 [20] k _ rfl (by omega) (by omega) (unhide HPR)).mono ?_
      rintro e w2 ⟨rfl, rfl⟩
      obtain ⟨ib, hib⟩ : ∃ ib, inB [20] k = ib := ⟨_, rfl⟩
      rw [hib]
      have HIB := hide hib
      clear hib
      cases ib with
      | false =>
        go_wp2
        go_roundw
        case rel => exact ⟨j + 1, by omega, by go_num, o, (unhide HIA).more, hkA⟩
        case measure => simp [intOf]; omega
      | true =>
        go_wp2_with fail
        obtain rfl : k = 20 := inB_one k (unhide HIB)
        refine (step_check (unhide HIA) a b c s _ _ ha0 ha1 hnc hcc (fun i hi => (unhide HCF i hi).up (Nat.le_refl _) (fun k x hkx => (hkA.cell (p := ⟨k, x, none⟩) hkx (fun h => absurd hkx (Nat.not_lt.2 h)))))).mono ?_
        rintro e w3 ⟨rfl, ⟨o3, hI3⟩, hk3⟩
        have HI3 := hide hI3
        clear hI3
        go_wp2_with fail
        refine ((unhide HI3).book (unhide HFJ1)).mono ?_
        rintro e w4 ⟨rfl, nq, hw4⟩
        have HW4 := hide hw4
        clear hw4
        go_wp2
        go_roundw
        case rel =>
          refine ⟨j + 1, by omega, by go_num, o3, ?_, ?_⟩
          · rw [unhide HW4]; exact (unhide HI3).same ((Keeps.refl (fun _ => False) w3).drewN nq) (fun _ _ _ f => f)
          · rw [unhide HW4]; exact (hkA.trans hk3 (fun _ _ h => h)).drewN nq
        case measure => simp [intOf]; omega
    · have hjn : j = n := by omega
      subst hjn
      go_wp2_with (go_at_call 41; refine ((unhide HI).apart (unhide HFJ)).mono ?_; rintro e w' ⟨rfl, hka⟩)
      go_ret
      exact ⟨rfl, hk.trans hka (fun _ _ h => h)⟩

set_option maxRecDepth 100000 in
set_option maxHeartbeats 1600000 in
theorem checks_any (w : World) (ac : Option Addr) (nc cc : Nat) (ao : Option Addr) (n cap : Nat) (hcap : n ≤ cap) (hF : Few n) (hnc : nc ≤ 9223372036854775807) (hcc : nc ≤ cc) (hC : ∀ i, i < nc → CfgAt w.heap.size w ac i) (hS : ∀ i, i < n → OpAt w.heap.size w ao i) :
    Calls Tryz.prog 5 #[.slice ac nc cc, .slice ao n cap] w fun e w' => e = .returned (.bool true) ∧ Below w.heap.size w w' := by
  have hKA : Keeps (fun _ => False) w (w.alloc (.cells #[.int .i64 20] 3)) := (Keeps.refl _ _).alloc _
  have hsz : (w.alloc (.cells #[.int .i64 20] 3)).heap.size = w.heap.size + 1 := by unfold World.alloc; exact Array.size_push _
  have HC := hide (plays_checks (w.alloc (.cells #[.int .i64 20] 3)) ac nc cc ao n cap w.heap.size hcap hF hnc hcc (fun i hi => (hC i hi).up (by omega) (fun k x hk => hKA.cell (p := ⟨k, x, none⟩) hk (fun f => f)))
    (fun i hi => (hS i hi).up (by omega) (fun k x hk => hKA.cell (p := ⟨k, x, none⟩) hk (fun f => f))) (by omega)
    (fun j hj => by
      have hl := heap_alloc_last w (.cells #[.int .i64 20] 3)
      match j, hj with
      | 0, _ => exact cell_of_heap hl))
  clear hS hF hcap hC hnc hcc
  go_enter Tryz.func5, Tryz.ntmps5
  go_wp2_with (go_at_call 14; refine (unhide HC).mono ?_; rintro e w' ⟨rfl, hk⟩)
  go_ret
  have hb : Keeps (fun k => w.heap.size ≤ k) w w' := (hKA.mono (fun k _ f => False.elim f)).trans hk (fun k _ q => by rw [hsz] at q; exact Nat.le_of_succ_le q)
  exact ⟨rfl, hb.below (Nat.le_refl _)⟩


end Go.Proofs.YthbmmbgkchiajaaGreat
