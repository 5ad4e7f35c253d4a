
/- One step of a script with journals. -/
import Derived.Test.YthbmmbgkchiajaaGreatQOnDisk
import Derived.Test.YthbmmbgkchiajaaGreatPlays
import Derived.Test.YthbmmbgkchiajaaGreatTop

namespace Go.Proofs.YthbmmbgkchiajaaGreat
open Go.RowKit

set_option maxRecDepth 100000 in
set_option maxHeartbeats 800000 in
theorem step_made2 {B : Nat} {o : Nat → Nat} {w : World} {pw : Nat} {vcs : Value} {N : Nat} (hI : Inv2 B o w pw vcs N) (hF : Few N) (a b c : Int) (s : ByteArray) (vk vp : Value) :
    Calls Tryz.prog 39 #[.pointer (some ⟨pw, 0, none⟩), opv 1 a b c s vk vp] w fun e w' => e = .returned (.bool true) ∧ (∃ o', Inv2 B o' w' pw vcs (N + 1)) ∧ Keeps (fun k => B ≤ k) w w' := by
  have hK : Keeps (fun _ => False) w (w.alloc (.cells #[.int .i64 1, .int .i64 a, .int .i64 b, .int .i64 c, .string s, vk, vp] 81)) := (Keeps.refl _ _).alloc _
  have HI := hide (hI.same hK (fun _ _ _ f => f))
  have HF := hide hF
  clear hI hF
  by_cases h : a < 1 ∨ 128 < a
  · have H := hide h
    clear h
    go_enter Tryz.func39, Tryz.ntmps39
    go_wp2_with (go_at_call 73; refine (made_no pw a _ (unhide H)).mono ?_; rintro e w' ⟨rfl, rfl⟩)
    go_ret
    exact ⟨rfl, ⟨o, (unhide HI).more⟩, hK.mono (fun _ _ f => f.elim)⟩
  · obtain ⟨n, rfl⟩ := Int.eq_ofNat_of_zero_le (a := a) (by omega)
    have hn0 : 1 ≤ n := by omega
    have hn1 : n ≤ 128 := by omega
    clear h
    go_enter Tryz.func39, Tryz.ntmps39
    go_wp2_with (go_at_call 73; refine (made_yes2 B o pw vcs N n _ (unhide HI) (unhide HF) hn0 hn1).mono ?_; rintro e w' ⟨rfl, hD, hk⟩)
    go_ret
    exact ⟨rfl, hD, (hK.mono (T := fun k => B ≤ k) (fun _ _ f => f.elim)).trans hk (fun _ _ q => q)⟩

set_option maxRecDepth 100000 in
set_option maxHeartbeats 1600000 in
theorem step_disk2 {B : Nat} {o0 : Nat → Nat} {w : World} {pw : Nat} {vcs : Value} {N : Nat} (hI0 : Inv2 B o0 w pw vcs N) (hF : Few N) (k a b c : Int) (s : ByteArray) (vk vp : Value) (bs : List Bool) (hO : OpOk B w b c s vk bs) (hvp : ∃ a n c, vp = .slice a n c) (hk : k = 6 ∨ k = 7 ∨ k = 8 ∨ k = 9 ∨ k = 10 ∨ k = 11 ∨ k = 12 ∨ k = 13 ∨ k = 14)
    (ha0 : -9223372036854775808 ≤ a) (ha1 : a ≤ 9223372036854775807) :
    Calls Tryz.prog 39 #[.pointer (some ⟨pw, 0, none⟩), opv k a b c s vk vp] w fun e w' => e = .returned (.bool true) ∧ (∃ o', Inv2 B o' w' pw vcs (N + 1)) ∧ Keeps (fun k => B ≤ k) w w' := by
  have hI := hI0.norm
  have hoz : ∀ k, w.heap.size ≤ k → (fun k => if k < w.heap.size then o0 k else 0) k = 0 := fun k hk => if_neg (by omega)
  generalize (fun k => if k < w.heap.size then o0 k else 0) = o at *
  clear hI0
  have hK : Keeps (fun _ => False) w (w.alloc (.cells #[.int .i64 k, .int .i64 a, .int .i64 b, .int .i64 c, .string s, vk, vp] 81)) := (Keeps.refl _ _).alloc _
  have hob := heap_alloc_last w (.cells #[.int .i64 k, .int .i64 a, .int .i64 b, .int .i64 c, .string s, vk, vp] 81)
  have HMORE := hide (hI.same hK (fun _ _ _ f => f)).more
  obtain ⟨vvs, vb, vs, ms, ls, og, h1, h2, h3, h4, h5, h6, h7, h8, h9, h10, h11, h12, h13⟩ := hI
  have b1 : (k == 1) = false := by simp; omega
  have b2 : decide (1 < k) = true := by simp; omega
  have b3 : decide (k ≤ 14) = true := by simp; omega
  have hpl := lt_of_heap h1
  have hNl := few_N N hF
  have HO := hide (hO.same hK (fun _ _ f => f) h13)
  have HF := hide hF
  have HKK := hide hk
  have HB := hide h12
  have HZ := hide hoz
  have hoz' := hoz w.heap.size (Nat.le_refl _)
  clear hO hF hk hoz
  have c1 := cell_of_heap (o := 1) h1
  simp at c1
  by_cases hnv : vs.length = 0
  · obtain ⟨av, cv, hvv, _⟩ := h3.len
    have HNV := hide hnv
    rw [hvv, hnv] at c1
    have HP := hide h1
    clear h1 h2 h3 h4 h5 h6 h7 h8 h9 h10 h11 h12 h13 hob hnv hvv
    go_enter Tryz.func39, Tryz.ntmps39
    go_wp2
    go_ret
    exact ⟨rfl, ⟨o, unhide HMORE⟩, hK.mono (fun _ _ f => f.elim)⟩
  · obtain ⟨gv, cv, hvv, hcv, hgo, hgl, hrow, _⟩ := h3.open (by omega)
    have hpk := pickOf_lt a vs.length (by omega)
    generalize hpke : pickOf a vs.length = pk at *
    have HPK := hide hpke
    obtain ⟨v, hv⟩ : ∃ v, vs[pk]? = some v := ⟨_, List.getElem?_eq_getElem hpk⟩
    have hcr := hrow pk (.pointer (some ⟨v, 0, none⟩)) (by simp [ptrs, hv])
    have HIV := hide (InvV2.same ⟨vvs, vb, vs, ms, ls, og, h1, h2, h3, h4, h5, h6, h7, h8, h9, h10, h11, h12, h13, hv⟩ (hK.drew))
    have c1W : (w.alloc (.cells #[.int .i64 k, .int .i64 a, .int .i64 b, .int .i64 c, .string s, vk, vp] 81)).cell? ⟨pw, 1, none⟩ = some (.slice (some ⟨gv, 0, none⟩) vs.length cv) := by
      rw [← hvv, (hK.cell (p := ⟨pw, 1, none⟩) hpl (fun f => f))]; exact c1
    have crW : (w.alloc (.cells #[.int .i64 k, .int .i64 a, .int .i64 b, .int .i64 c, .string s, vk, vp] 81)).cell? ⟨gv, pk, none⟩ = some (.pointer (some ⟨v, 0, none⟩)) := (hK.cell (p := ⟨gv, pk, none⟩) hgl (fun f => f)).trans hcr
    have hSS : StepS pw w.heap.size gv vs.length cv pk v k a b c s vk vp (w.alloc (.cells #[.int .i64 k, .int .i64 a, .int .i64 b, .int .i64 c, .string s, vk, vp] 81)) := ⟨c1W, cell_of_heap hob, cell_of_heap hob, cell_of_heap hob, cell_of_heap hob, cell_of_heap hob, cell_of_heap hob, cell_of_heap hob, crW⟩
    rw [hvv] at c1
    have hn0 : (1 : Int) ≤ (vs.length : Int) := by omega
    have hp0 : (0 : Int) ≤ (pk : Int) := Int.natCast_nonneg _
    have hp1 : (pk : Int) < (vs.length : Int) := by omega
    have hne : ((vs.length : Int) == 0) = false := by rw [beq_eq_false_iff_ne]; omega
    have hvl9 : vs.length ≤ 9223372036854775807 := by omega
    have HV := hide hv
    have HPW := hide (And.intro h1 h2)
    clear h1 h2 h3 h4 h5 h6 h7 h8 h10 h11 h12 hv hvv hrow hcr hpke hob
    go_enter Tryz.func39, Tryz.ntmps39
    go_wp2_with fail
    generalize hW0 : w.alloc (.cells #[.int .i64 k, .int .i64 a, .int .i64 b, .int .i64 c, .string s, vk, vp] 81) = W0 at *
    clear hW0
    have s0 := hK.size
    go_region_held3 (fun w' => w'.cell? ⟨pw, 1, none⟩ = some (.slice (some ⟨gv, 0, none⟩) vs.length cv) ∧ w'.cell? ⟨w.heap.size, 0, none⟩ = some (.int .i64 k) ∧ w'.cell? ⟨w.heap.size, 1, none⟩ = some (.int .i64 a) ∧ w'.cell? ⟨w.heap.size, 2, none⟩ = some (.int .i64 b) ∧ w'.cell? ⟨w.heap.size, 3, none⟩ = some (.int .i64 c) ∧ w'.cell? ⟨w.heap.size, 4, none⟩ = some (.string s) ∧ w'.cell? ⟨w.heap.size, 5, none⟩ = some vk ∧ w'.cell? ⟨w.heap.size, 6, none⟩ = some vp ∧ w'.cell? ⟨gv, pk, none⟩ = some (.pointer (some ⟨v, 0, none⟩))) (first | exact hSS | exact hSS'') (first | (go_at_call 75; refine (pick_any a vs.length _ ha0 ha1 (by omega) hvl9).mono ?_; rintro e w' ⟨rfl, rfl⟩; rw [unhide HPK]) | (go_at_call 74; refine (onDisk_any2 (unhide HIV) (unhide HF) k a b c s vk vp bs ((unhide HO).same (Keeps.refl (fun _ => False) W0).drew (fun _ _ f => f) (by omega)) hvp (unhide HKK)).mono ?_; rintro e w5 ⟨rfl, hD⟩; have hSS'' := StepS.done2 (W := W0.drew) hSS hD hoz' hgo))
    go_wp2
    go_ret
    refine ⟨rfl, hD.1, ((hK.mono (T := fun k => B ≤ k) (fun _ _ f => f.elim)).drew).trans hD.2.1 (fun i hi h => ?_)⟩
    rcases Nat.lt_or_ge i B with hb | hb
    · exact absurd (unhide HB i hb) h.1
    · exact hb

end Go.Proofs.YthbmmbgkchiajaaGreat

/- The script with journals. -/
namespace Go.Proofs.YthbmmbgkchiajaaGreat
open Go.RowKit

theorem Inv2.book {B : Nat} {o : Nat → Nat} {w : World} {pw : Nat} {vcs : Value} {N : Nat} (h : Inv2 B o w pw vcs N) (hF : Few N) :
    Calls Tryz.prog 40 #[.pointer (some ⟨pw, 3, none⟩)] w fun e w' => e = .returned (.bool true) ∧ ∃ nq, w' = w.drewN nq := by
  obtain ⟨vvs, vb, vs, ms, ls, og, h1, h2, h3, h4, h5, h6, h7, h8, h9, h10, h11, h12, h13⟩ := h
  have := few_N N hF
  exact looks_any (fun k => o k = 4) (fun k => o k = 3) og pw ls w ⟨vb, cell_of_heap h1, cell_of_heap h1, cell_of_heap h1, cell_of_heap h1, h4⟩ h5 (by omega)

theorem Inv2.apart {B : Nat} {o : Nat → Nat} {w : World} {pw : Nat} {vcs : Value} {N : Nat} (h : Inv2 B o w pw vcs N) (hF : Few N) :
    Calls Tryz.prog 41 #[.pointer (some ⟨pw, 3, none⟩)] w fun e w' => e = .returned (.bool true) ∧ Keeps (fun k => B ≤ k) w w' := by
  obtain ⟨vvs, vb, vs, ms, ls, og, h1, h2, h3, h4, h5, h6, h7, h8, h9, h10, h11, h12, h13⟩ := h
  have := few_N N hF
  refine (apart_any (fun k => o k = 4) (fun k => o k = 3) og pw ls w ⟨vb, cell_of_heap h1, cell_of_heap h1, cell_of_heap h1, cell_of_heap h1, h4⟩ h5 (by omega) h6 (fun k a b => by omega) (by omega)).mono fun e w' ⟨e1, e2⟩ => ⟨e1, e2.mono (fun k _ q => ?_)⟩
  rcases Nat.lt_or_ge k B with hb | hb
  · have := h12 k hb; omega
  · exact hb

theorem inB_ten (k : Int) (h : inB [1, 6, 7, 8, 9, 10, 11, 12, 13, 14] k = true) : k = 1 ∨ k = 6 ∨ k = 7 ∨ k = 8 ∨ k = 9 ∨ k = 10 ∨ k = 11 ∨ k = 12 ∨ k = 13 ∨ k = 14 := by
  unfold inB at h
  rw [List.contains_iff_mem] at h
  simpa using h

theorem start_inv2 (w : World) (vcs : Value) : Inv2 w.heap.size (fun k => if k = w.heap.size then 1 else 0) (w.alloc (.cells #[vcs, .slice none 0 0, .slice none 0 0, .slice none 0 0, .slice none 0 0, .slice none 0 0, .slice none 0 0] 79)) w.heap.size vcs 0 :=
  ⟨.slice none 0 0, .slice none 0 0, [], [], [], fun _ => 0, heap_alloc_last w _, if_pos rfl, Own.nil _ _ _ _, Own.nil _ _ _ _, fun i v h => by simp at h, rfl, rfl, fun i v m h => by simp at h, Nat.le_refl _, Nat.le_refl _, fun m h => by simp at h, fun k hk => if_neg (by omega), by simp⟩

theorem step_any2 {B : Nat} {o : Nat → Nat} {w : World} {pw : Nat} {vcs : Value} {N : Nat} (hI : Inv2 B o w pw vcs N) (hF : Few N) (k a b c : Int) (s : ByteArray) (vk vp : Value) (bs : List Bool) (hO : OpOk B w b c s vk bs) (hvp : ∃ a n c, vp = .slice a n c) (hk : inB [1, 6, 7, 8, 9, 10, 11, 12, 13, 14] k = true)
    (ha0 : -9223372036854775808 ≤ a) (ha1 : a ≤ 9223372036854775807) :
    Calls Tryz.prog 39 #[.pointer (some ⟨pw, 0, none⟩), opv k a b c s vk vp] w fun e w' => e = .returned (.bool true) ∧ (∃ o', Inv2 B o' w' pw vcs (N + 1)) ∧ Keeps (fun k => B ≤ k) w w' := by
  rcases inB_ten k hk with rfl | h
  · exact step_made2 hI hF a b c s vk vp
  · exact step_disk2 hI hF k a b c s vk vp bs hO hvp h ha0 ha1

set_option maxRecDepth 100000 in
set_option maxHeartbeats 1600000 in
theorem plays_any2 (w : World) (ac : Option Addr) (nc cc : Nat) (ao : Option Addr) (n cap bp : Nat) (hcap : n ≤ cap) (hF : Few n) (hS : ∀ i, i < n → OpAt w.heap.size w ao i) (hbp : bp < w.heap.size) (hP : ∀ j, j < [1, 6, 7, 8, 9, 10, 11, 12, 13, 14].length → w.cell? ⟨bp, j, none⟩ = some (.int .i64 (([1, 6, 7, 8, 9, 10, 11, 12, 13, 14] : List Int).getD j 0))) :
    Calls Tryz.prog 14 #[.slice ac nc cc, .slice ao n cap, .slice (some ⟨bp, 0, none⟩) 10 10] w fun e w' => e = .returned (.bool true) ∧ Keeps (fun k => w.heap.size ≤ k) w w' := by
  have hnN := few_N n hF
  have HS := hide hS
  have HP := hide hP
  have HF := hide hF
  have HI0 := hide (start_inv2 w (.slice ac nc cc))
  clear hS hP hF
  go_enter Tryz.func14, Tryz.ntmps14
  go_wp2
  go_loopw [8] (fun i wr => ∃ j : Nat, j ≤ n ∧ i = .int .i64 j ∧ ∃ o, Inv2 w.heap.size o wr w.heap.size (.slice ac nc cc) j ∧ Keeps (fun k => w.heap.size ≤ k) w wr) (fun i _ => n - (intOf i).toNat)
  case atStart => exact ⟨0, Nat.zero_le _, rfl, _, unhide HI0, (Keeps.refl _ _).alloc _⟩
  case round =>
    obtain ⟨j, hj, rfl, o, hI, hk⟩ := hrel
    have hFj : Few j := Nat.le_trans (Nat.mul_le_mul_right 96 hj) (unhide HF)
    have HFJ := hide hFj
    have HI := hide hI
    clear hFj hI
    by_cases hlt : j < n
    · have hFj1 : Few (j + 1) := Nat.le_trans (Nat.mul_le_mul_right 96 hlt) (unhide HF)
      have HFJ1 := hide hFj1
      clear hFj1
      obtain ⟨gs, os, k, a, b, c, s, ka, kn, kc, pa, pn, pc, bs, rfl, hgs, e0, e1, e2, e3, e4, e5, e6, ha0, ha1, hO⟩ := unhide HS j hlt
      have q : ∀ x : Nat, wr.cell? ⟨gs, x, none⟩ = w.cell? ⟨gs, x, none⟩ := fun x => hk.cell (p := ⟨gs, x, none⟩) hgs (fun h => absurd hgs (Nat.not_lt.2 h))
      have f0 := (q _).trans e0
      have f1 := (q _).trans e1
      have f2 := (q _).trans e2
      have f3 := (q _).trans e3
      have f4 := (q _).trans e4
      have f5 := (q _).trans e5
      have f6 := (q _).trans e6
      have hsr := hk.size
      have hKA : Keeps (fun _ => False) wr (wr.alloc (.cells #[.int .i64 k, .int .i64 a, .int .i64 b, .int .i64 c, .string s, .slice ka kn kc, .slice pa pn pc] 81)) := (Keeps.refl _ _).alloc _
      have HIA := hide ((unhide HI).same hKA (fun _ _ _ f => f))
      have HO := hide ((hO.same hk (fun k hk' h => absurd hk' (Nat.not_lt.2 h)) (Nat.le_refl _)).same hKA (fun _ _ f => f) hsr)
      have hPr : ∀ i, i < [1, 6, 7, 8, 9, 10, 11, 12, 13, 14].length → (wr.alloc (.cells #[.int .i64 k, .int .i64 a, .int .i64 b, .int .i64 c, .string s, .slice ka kn kc, .slice pa pn pc] 81)).cell? ⟨bp, i, none⟩ = some (.int .i64 (([1, 6, 7, 8, 9, 10, 11, 12, 13, 14] : List Int).getD i 0)) := by
        intro i hi
        rw [hKA.cell (p := ⟨bp, i, none⟩) (by show bp < _; omega) (fun f => f), hk.cell (p := ⟨bp, i, none⟩) hbp (fun h => absurd hbp (Nat.not_lt.2 h))]
        exact unhide HP i hi
      have HPR := hide hPr
      have d1 : decide ((j : Int) < (n : Int)) = true := by simp; omega
      have d2 : decide ((j : Int) < 144115188075855872) = true := by simp; omega
      clear q e0 e1 e2 e3 e4 e5 e6 hPr hO
      have hkA := hk.trans hKA (fun _ _ f => f.elim)
      go_wp2_with fail
      refine (among_any bp 10 10 [1, 6, 7, 8, 9, 10, 11, 12, 13, 14] k _ rfl (by omega) (by omega) (unhide HPR)).mono ?_
      rintro e w2 ⟨rfl, rfl⟩
      obtain ⟨ib, hib⟩ : ∃ ib, inB [1, 6, 7, 8, 9, 10, 11, 12, 13, 14] k = ib := ⟨_, rfl⟩
      rw [hib]
      have HIB := hide hib
      clear hib
      cases ib with
      | false =>
        go_wp2
        go_roundw
        case rel => exact ⟨j + 1, by omega, by go_num, o, (unhide HIA).more, hkA⟩
        case measure => simp [intOf]; omega
      | true =>
        go_wp2_with fail
        refine (step_any2 (unhide HIA) (unhide HFJ) k a b c s _ _ bs (unhide HO) ⟨_, _, _, rfl⟩ (unhide HIB) ha0 ha1).mono ?_
        rintro e w3 ⟨rfl, ⟨o3, hI3⟩, hk3⟩
        have HI3 := hide hI3
        clear hI3
        go_wp2_with fail
        refine ((unhide HI3).book (unhide HFJ1)).mono ?_
        rintro e w4 ⟨rfl, nq, hw4⟩
        have HW4 := hide hw4
        clear hw4
        go_wp2
        go_roundw
        case rel =>
          refine ⟨j + 1, by omega, by go_num, o3, ?_, ?_⟩
          · rw [unhide HW4]; exact (unhide HI3).same ((Keeps.refl (fun _ => False) w3).drewN nq) (fun _ _ _ f => f)
          · rw [unhide HW4]; exact (hkA.trans hk3 (fun _ _ h => h)).drewN nq
        case measure => simp [intOf]; omega
    · have hjn : j = n := by omega
      subst hjn
      go_wp2_with (go_at_call 41; refine ((unhide HI).apart (unhide HFJ)).mono ?_; rintro e w' ⟨rfl, hka⟩)
      go_ret
      exact ⟨rfl, hk.trans hka (fun _ _ h => h)⟩

end Go.Proofs.YthbmmbgkchiajaaGreat

/- The law Journals itself. -/
namespace Go.Proofs.YthbmmbgkchiajaaGreat
open Go.RowKit

set_option maxRecDepth 100000 in
set_option maxHeartbeats 1600000 in
theorem journals_any (w : World) (ac : Option Addr) (nc cc : Nat) (ao : Option Addr) (n cap : Nat) (hcap : n ≤ cap) (hF : Few n) (hS : ∀ i, i < n → OpAt w.heap.size w ao i) :
    Calls Tryz.prog 4 #[.slice ac nc cc, .slice ao n cap] w fun e w' => e = .returned (.bool true) ∧ Below w.heap.size w w' := by
  have hKA : Keeps (fun _ => False) w (w.alloc (.cells #[.int .i64 1, .int .i64 6, .int .i64 7, .int .i64 8, .int .i64 9, .int .i64 10, .int .i64 11, .int .i64 12, .int .i64 13, .int .i64 14] 3)) := (Keeps.refl _ _).alloc _
  have hsz : (w.alloc (.cells #[.int .i64 1, .int .i64 6, .int .i64 7, .int .i64 8, .int .i64 9, .int .i64 10, .int .i64 11, .int .i64 12, .int .i64 13, .int .i64 14] 3)).heap.size = w.heap.size + 1 := by unfold World.alloc; exact Array.size_push _
  have HC := hide (plays_any2 (w.alloc (.cells #[.int .i64 1, .int .i64 6, .int .i64 7, .int .i64 8, .int .i64 9, .int .i64 10, .int .i64 11, .int .i64 12, .int .i64 13, .int .i64 14] 3)) ac nc cc ao n cap w.heap.size hcap hF
    (fun i hi => (hS i hi).up (by omega) (fun k x hk => hKA.cell (p := ⟨k, x, none⟩) hk (fun f => f))) (by omega)
    (fun j hj => by
      have hl := heap_alloc_last w (.cells #[.int .i64 1, .int .i64 6, .int .i64 7, .int .i64 8, .int .i64 9, .int .i64 10, .int .i64 11, .int .i64 12, .int .i64 13, .int .i64 14] 3)
      match j, hj with
      | 0, _ => exact cell_of_heap hl
      | 1, _ => exact cell_of_heap hl
      | 2, _ => exact cell_of_heap hl
      | 3, _ => exact cell_of_heap hl
      | 4, _ => exact cell_of_heap hl
      | 5, _ => exact cell_of_heap hl
      | 6, _ => exact cell_of_heap hl
      | 7, _ => exact cell_of_heap hl
      | 8, _ => exact cell_of_heap hl
      | 9, _ => exact cell_of_heap hl))
  clear hS hF hcap
  go_enter Tryz.func4, Tryz.ntmps4
  go_wp2_with (go_at_call 14; refine (unhide HC).mono ?_; rintro e w' ⟨rfl, hk⟩)
  go_ret
  have hb : Keeps (fun k => w.heap.size ≤ k) w w' := (hKA.mono (fun k _ f => False.elim f)).trans hk (fun k _ q => by rw [hsz] at q; exact Nat.le_of_succ_le q)
  exact ⟨rfl, hb.below (Nat.le_refl _)⟩

end Go.Proofs.YthbmmbgkchiajaaGreat
