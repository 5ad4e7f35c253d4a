
/- The script. -/
import Derived.Test.YthbmmbgkchiajaaGreatStep
namespace Go.Proofs.YthbmmbgkchiajaaGreat
open Go.RowKit

theorem Inv.book {B : Nat} {o : Nat → Nat} {w : World} {pw : Nat} {vcs : Value} {N : Nat} (h : Inv B o w pw vcs N) (hF : Few N) :
    Calls Tryz.prog 40 #[.pointer (some ⟨pw, 3, none⟩)] w fun e w' => e = .returned (.bool true) ∧ ∃ nq, w' = w.drewN nq := by
  obtain ⟨vvs, vb, vs, ms, ls, og, h1, h2, h3, h4, h5, h6, h7, h8, h9, h10, h11, h12, h13⟩ := h
  have := few_N N hF
  exact looks_any (fun k => o k = 4) (fun k => o k = 3) og pw ls w ⟨vb, cell_of_heap h1, cell_of_heap h1, cell_of_heap h1, cell_of_heap h1, h4⟩ h5 (by omega)

theorem Inv.apart {B : Nat} {o : Nat → Nat} {w : World} {pw : Nat} {vcs : Value} {N : Nat} (h : Inv B o w pw vcs N) (hF : Few N) :
    Calls Tryz.prog 41 #[.pointer (some ⟨pw, 3, none⟩)] w fun e w' => e = .returned (.bool true) ∧ Keeps (fun k => B ≤ k) w w' := by
  obtain ⟨vvs, vb, vs, ms, ls, og, h1, h2, h3, h4, h5, h6, h7, h8, h9, h10, h11, h12, h13⟩ := h
  have := few_N N hF
  refine (apart_any (fun k => o k = 4) (fun k => o k = 3) og pw ls w ⟨vb, cell_of_heap h1, cell_of_heap h1, cell_of_heap h1, cell_of_heap h1, h4⟩ h5 (by omega) h6 (fun k a b => by omega) (by omega)).mono fun e w' ⟨e1, e2⟩ => ⟨e1, e2.mono (fun k _ q => ?_)⟩
  rcases Nat.lt_or_ge k B with hb | hb
  · have := h12 k hb; omega
  · exact hb

/-- The i-th operation of a script that lies at ao, below B. -/
def OpAt (B : Nat) (w : World) (ao : Option Addr) (i : Nat) : Prop :=
  ∃ gs os k a b c s ka kn kc pa pn pc bs, ao = some ⟨gs, os, none⟩ ∧ gs < B ∧ w.cell? ⟨gs, os + i * 7, none⟩ = some (.int .i64 k) ∧ w.cell? ⟨gs, os + i * 7 + 1, none⟩ = some (.int .i64 a) ∧ w.cell? ⟨gs, os + i * 7 + 2, none⟩ = some (.int .i64 b) ∧ w.cell? ⟨gs, os + i * 7 + 3, none⟩ = some (.int .i64 c) ∧
    w.cell? ⟨gs, os + i * 7 + 4, none⟩ = some (.string s) ∧ w.cell? ⟨gs, os + i * 7 + 5, none⟩ = some (.slice ka kn kc) ∧ w.cell? ⟨gs, os + i * 7 + 6, none⟩ = some (.slice pa pn pc) ∧ -9223372036854775808 ≤ a ∧ a ≤ 9223372036854775807 ∧ OpOk B w b c s (.slice ka kn kc) bs

theorem inB_six (k : Int) (h : inB [1, 2, 3, 4, 5, 6] k = true) : k = 1 ∨ k = 2 ∨ k = 3 ∨ k = 4 ∨ k = 5 ∨ k = 6 := by
  unfold inB at h
  rw [List.contains_iff_mem] at h
  simpa using h

theorem start_inv (w : World) (vcs : Value) : Inv w.heap.size (fun k => if k = w.heap.size then 1 else 0) (w.alloc (.cells #[vcs, .slice none 0 0, .slice none 0 0, .slice none 0 0, .slice none 0 0, .slice none 0 0, .slice none 0 0] 79)) w.heap.size vcs 0 :=
  ⟨.slice none 0 0, .slice none 0 0, [], [], [], fun _ => 0, heap_alloc_last w _, if_pos rfl, Own.nil _ _ _ _, Own.nil _ _ _ _, fun i v h => by simp at h, rfl, rfl, fun i v m h => by simp at h, Nat.le_refl _, Nat.le_refl _, fun m h => by simp at h, fun k hk => if_neg (by omega), by simp⟩

theorem step_any {B : Nat} {o : Nat → Nat} {w : World} {pw : Nat} {vcs : Value} {N : Nat} (hI : Inv B o w pw vcs N) (hF : Few N) (k a b c : Int) (s : ByteArray) (vk vp : Value) (bs : List Bool) (hO : OpOk B w b c s vk bs) (hk : inB [1, 2, 3, 4, 5, 6] k = true)
    (ha0 : -9223372036854775808 ≤ a) (ha1 : a ≤ 9223372036854775807) :
    Calls Tryz.prog 39 #[.pointer (some ⟨pw, 0, none⟩), opv k a b c s vk vp] w fun e w' => e = .returned (.bool true) ∧ (∃ o', Inv B o' w' pw vcs (N + 1)) ∧ Keeps (fun k => B ≤ k) w w' := by
  rcases inB_six k hk with rfl | h
  · exact step_made hI hF a b c s vk vp
  · exact step_disk hI hF k a b c s vk vp bs hO h ha0 ha1

set_option maxRecDepth 100000 in
set_option maxHeartbeats 1600000 in
theorem plays_any (w : World) (ac : Option Addr) (nc cc : Nat) (ao : Option Addr) (n cap bp : Nat) (hcap : n ≤ cap) (hF : Few n) (hS : ∀ i, i < n → OpAt w.heap.size w ao i) (hbp : bp < w.heap.size) (hP : ∀ j, j < [1, 2, 3, 4, 5, 6].length → w.cell? ⟨bp, j, none⟩ = some (.int .i64 (([1, 2, 3, 4, 5, 6] : List Int).getD j 0))) :
    Calls Tryz.prog 14 #[.slice ac nc cc, .slice ao n cap, .slice (some ⟨bp, 0, none⟩) 6 6] w fun e w' => e = .returned (.bool true) ∧ Keeps (fun k => w.heap.size ≤ k) w w' := by
  have hnN := few_N n hF
  have HS := hide hS
  have HP := hide hP
  have HF := hide hF
  have HI0 := hide (start_inv w (.slice ac nc cc))
  clear hS hP hF
  go_enter Tryz.func14, Tryz.ntmps14
  go_wp2
  go_loopw [8] (fun i wr => ∃ j : Nat, j ≤ n ∧ i = .int .i64 j ∧ ∃ o, Inv w.heap.size o wr w.heap.size (.slice ac nc cc) j ∧ Keeps (fun k => w.heap.size ≤ k) w wr) (fun i _ => n - (intOf i).toNat)
  case atStart => exact ⟨0, Nat.zero_le _, rfl, _, unhide HI0, (Keeps.refl _ _).alloc _⟩
  case round =>
    obtain ⟨j, hj, rfl, o, hI, hk⟩ := hrel
    have hFj : Few j := Nat.le_trans (Nat.mul_le_mul_right 96 hj) (unhide HF)
    have HFJ := hide hFj
    have HI := hide hI
    clear hFj hI
    by_cases hlt : j < n
    · have hFj1 : Few (j + 1) := Nat.le_trans (Nat.mul_le_mul_right 96 hlt) (unhide HF)
      have HFJ1 := hide hFj1
      clear hFj1
      obtain ⟨gs, os, k, a, b, c, s, ka, kn, kc, pa, pn, pc, bs, rfl, hgs, e0, e1, e2, e3, e4, e5, e6, ha0, ha1, hO⟩ := unhide HS j hlt
      have q : ∀ x : Nat, wr.cell? ⟨gs, x, none⟩ = w.cell? ⟨gs, x, none⟩ := fun x => hk.cell (p := ⟨gs, x, none⟩) hgs (fun h => absurd hgs (Nat.not_lt.2 h))
      have f0 := (q _).trans e0
      have f1 := (q _).trans e1
      have f2 := (q _).trans e2
      have f3 := (q _).trans e3
      have f4 := (q _).trans e4
      have f5 := (q _).trans e5
      have f6 := (q _).trans e6
      have hsr := hk.size
      have hKA : Keeps (fun _ => False) wr (wr.alloc (.cells #[.int .i64 k, .int .i64 a, .int .i64 b, .int .i64 c, .string s, .slice ka kn kc, .slice pa pn pc] 81)) := (Keeps.refl _ _).alloc _
      have HIA := hide ((unhide HI).same hKA (fun _ _ _ f => f))
      have HO := hide ((hO.same hk (fun k hk' h => absurd hk' (Nat.not_lt.2 h)) (Nat.le_refl _)).same hKA (fun _ _ f => f) hsr)
      have hPr : ∀ i, i < [1, 2, 3, 4, 5, 6].length → (wr.alloc (.cells #[.int .i64 k, .int .i64 a, .int .i64 b, .int .i64 c, .string s, .slice ka kn kc, .slice pa pn pc] 81)).cell? ⟨bp, i, none⟩ = some (.int .i64 (([1, 2, 3, 4, 5, 6] : List Int).getD i 0)) := by
        intro i hi
        rw [hKA.cell (p := ⟨bp, i, none⟩) (by show bp < _; omega) (fun f => f), hk.cell (p := ⟨bp, i, none⟩) hbp (fun h => absurd hbp (Nat.not_lt.2 h))]
        exact unhide HP i hi
      have HPR := hide hPr
      have d1 : decide ((j : Int) < (n : Int)) = true := by simp; omega
      have d2 : decide ((j : Int) < 144115188075855872) = true := by simp; omega
      clear q e0 e1 e2 e3 e4 e5 e6 hPr hO
      have hkA := hk.trans hKA (fun _ _ f => f.elim)
      go_wp2_with fail
      refine (among_any bp 6 6 [1, 2, 3, 4, 5, 6] k _ rfl (by omega) (by omega) (unhide HPR)).mono ?_
      rintro e w2 ⟨rfl, rfl⟩
      obtain ⟨ib, hib⟩ : ∃ ib, inB [1, 2, 3, 4, 5, 6] k = ib := ⟨_, rfl⟩
      rw [hib]
      have HIB := hide hib
      clear hib
      cases ib with
      | false =>
        go_wp2
        go_roundw
        case rel => exact ⟨j + 1, by omega, by go_num, o, (unhide HIA).more, hkA⟩
        case measure => simp [intOf]; omega
      | true =>
        go_wp2_with fail
        refine (step_any (unhide HIA) (unhide HFJ) k a b c s _ _ bs (unhide HO) (unhide HIB) ha0 ha1).mono ?_
        rintro e w3 ⟨rfl, ⟨o3, hI3⟩, hk3⟩
        have HI3 := hide hI3
        clear hI3
        go_wp2_with fail
        refine ((unhide HI3).book (unhide HFJ1)).mono ?_
        rintro e w4 ⟨rfl, nq, hw4⟩
        have HW4 := hide hw4
        clear hw4
        go_wp2
        go_roundw
        case rel =>
          refine ⟨j + 1, by omega, by go_num, o3, ?_, ?_⟩
          · rw [unhide HW4]; exact (unhide HI3).same ((Keeps.refl (fun _ => False) w3).drewN nq) (fun _ _ _ f => f)
          · rw [unhide HW4]; exact (hkA.trans hk3 (fun _ _ h => h)).drewN nq
        case measure => simp [intOf]; omega
    · have hjn : j = n := by omega
      subst hjn
      go_wp2_with (go_at_call 41; refine ((unhide HI).apart (unhide HFJ)).mono ?_; rintro e w' ⟨rfl, hka⟩)
      go_ret
      exact ⟨rfl, hk.trans hka (fun _ _ h => h)⟩

end Go.Proofs.YthbmmbgkchiajaaGreat
