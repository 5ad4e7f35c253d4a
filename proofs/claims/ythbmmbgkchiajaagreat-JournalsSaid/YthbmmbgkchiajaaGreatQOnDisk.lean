
/- A step on a disk or on its journal, whichever. -/
import Derived.Test.YthbmmbgkchiajaaGreatQGlue
namespace Go.Proofs.YthbmmbgkchiajaaGreat
open Go.RowKit

theorem InvV2.open {B : Nat} {o : Nat → Nat} {W : World} {pw : Nat} {vcs : Value} {N i v : Nat} (hI : InvV2 B o W pw vcs N i v) (hF : Few N) :
    ∃ x, VolT o (5 + 3 * i) W v x ∧ VB N x ∧ (∀ w', StepT o (5 + 3 * i) W v N w' → Done2 B o W pw vcs N w') ∧ (∀ k, k < B → o k = 0) ∧ B ≤ W.heap.size ∧ pw < W.heap.size ∧
      ∃ vvs vb ls, W.heap[pw]? = some (.cells #[vcs, vvs, .slice none 0 0, vb, .slice none 0 0, .slice none 0 0, .slice none 0 0] 79 (0, 0)) ∧ Own (fun k => o k = 3) W 138 1 vb ls.length ls ∧ ¬ o pw = 3 ∧ (ls.length + 4) * 24 ≤ 140737488355328 ∧
        (∀ w', LookPost (fun k => o k = 3) pw vcs vvs (.slice none 0 0) (.slice none 0 0) (.slice none 0 0) (.slice none 0 0) ls W w' → Done2 B o W pw vcs N w') := by
  obtain ⟨vvs, vb, vs, ms, ls, og, h1, h2, h3, h4, h5, h6, h7, h8, h9, h10, h11, h12, h13, h14⟩ := hI
  have hil : i < ms.length := by rw [h7]; exact (List.getElem?_eq_some_iff.1 h14).1
  obtain ⟨m, hm⟩ : ∃ m, ms[i]? = some m := ⟨_, List.getElem?_eq_getElem hil⟩
  refine ⟨m, h8 i v m h14 hm, h11 m (List.mem_of_getElem? hm), fun w' ⟨x', e1, e2⟩ => inv_vstep2 h1 h2 h3 h4 h5 h6 h7 h8 h9 h10 h11 h12 h13 h14 hm e1 e2, h12, h13, lt_of_heap h1, vvs, vb, ls, h1, h4, by omega, few_lists N _ hF h10, fun w' hl => inv_look h1 h2 h3 h5 h6 h7 h8 h9 h10 h11 h12 h13 hl⟩

theorem StepT.stay {o : Nat → Nat} {t v N : Nat} {x : VM} {w : World} (hV : VolT o t w v x) (hb : VB N x) : StepT o t w v N w := ⟨x, hb.more, ⟨o, hV, fun _ _ => rfl⟩, Keeps.refl _ _⟩

/-- What onDisk reads of a volume. -/
theorem VolT.cells {o : Nat → Nat} {t v : Nat} {x : VM} {w : World} (h : VolT o t w v x) : ∃ vj vr : Option Addr, w.cell? ⟨v, 3, none⟩ = some (.pointer vj) ∧ w.cell? ⟨v, 4, none⟩ = some (.pointer vr) ∧
    ((∃ n, x = .plain n) ∧ vj = none ∧ vr = none ∨ (∃ j m, x = .jour j m false) ∧ vj = none ∧ (∃ rj, vr = some ⟨rj, 0, none⟩) ∨ ∃ j m, x = .jour j m true ∧ InUse j m ∧ (∃ pj, vj = some ⟨pj, 0, none⟩) ∧ (∃ rj, vr = some ⟨rj, 0, none⟩)) := by
  cases x with
  | plain n =>
    obtain ⟨⟨d, r, dirty, h1, _⟩, _⟩ := h
    exact ⟨none, none, cell_of_heap h1, cell_of_heap h1, .inl ⟨⟨n, rfl⟩, rfl, rfl⟩⟩
  | jour j m use =>
    obtain ⟨⟨d, r, rj, dirty, vj, h1, h2, h3⟩, _⟩ := h
    rcases h3 with ⟨rfl, pj, rfl, hu⟩ | ⟨rfl, rfl, _⟩
    · exact ⟨_, _, cell_of_heap h1, cell_of_heap h1, .inr (.inr ⟨j, m, rfl, hu.2.1, ⟨pj, rfl⟩, ⟨rj, rfl⟩⟩)⟩
    · exact ⟨_, _, cell_of_heap h1, cell_of_heap h1, .inr (.inl ⟨⟨j, m, rfl⟩, rfl, ⟨rj, rfl⟩⟩)⟩

theorem few_strs (N : Nat) (h : Few N) : (N + 1) * 16 ≤ 140737488355328 := by
  have h1 := few_mul N 16 h (by omega)
  have h3 : (N + 1) * 16 = N * 16 + 16 := by rw [Nat.add_mul]
  rw [h3]
  omega

set_option maxRecDepth 100000 in
set_option maxHeartbeats 800000 in
theorem onDisk6 {B : Nat} {o : Nat → Nat} {W : World} {pw : Nat} {vcs : Value} {N i v : Nat} (hI : InvV2 B o W pw vcs N i v) (hF : Few N) (a b c : Int) (s : ByteArray) (vk vp : Value) (bs : List Bool) (hO : OpOk B W b c s vk bs) (_hvp : ∃ a n c, vp = .slice a n c) :
    Calls Tryz.prog 74 #[.pointer (some ⟨pw, 0, none⟩), .pointer (some ⟨v, 0, none⟩), opv 6 a b c s vk vp] W fun e w' => e = .returned (.bool true) ∧ Done2 B o W pw vcs N w' := by
  have hK : Keeps (fun _ => False) W (W.alloc (.cells #[.int .i64 6, .int .i64 a, .int .i64 b, .int .i64 c, .string s, vk, vp] 81)) := (Keeps.refl _ _).alloc _
  obtain ⟨_, _, _, _, _, _, hpl, _⟩ := hI.open hF
  rename_i hx1 hx2 hx3 hx4 hx5 hx6; clear hx1 hx2 hx3 hx4 hx5 hx6
  have hBW : B ≤ W.heap.size := by obtain ⟨_, _, _, _, _, h, _⟩ := hI.open hF; exact h
  obtain ⟨x, hV, hb, hstep, h12, h13, hpw, vvs, vb, ls, h1, h4, hpT, hNl, hlook⟩ := (hI.same hK).open hF
  have hO0 := hO.same hK (fun _ _ f => f) hBW
  have hN := few_N N hF
  have hN16 := few_strs N hF
  have hvk : ∃ a n c, vk = .slice a n c := by
    rcases hO.k with ⟨rfl, _⟩ | ⟨_, _, rfl, _⟩ <;> exact ⟨_, _, _, rfl⟩
  have HSTEP := hide hstep
  have HLOOK := hide hlook
  have HC := hide (crashed_any2 hV hb a b c s vk vp bs hO0 h12 h13 (by omega))
  clear hI hO hstep hlook hV hb h1 h4 hO0 hF h12 hNl
  go_enter Tryz.func74, Tryz.ntmps74
  go_wp2_with fail
  go_at_call 121
  refine (unhide HC).mono ?_
  rintro e w' ⟨rfl, hD⟩
  have HD := hide hD
  clear hD
  go_wp2
  go_ret
  exact ⟨rfl, (unhide HSTEP _ (unhide HD)).back hK hpl⟩

set_option maxRecDepth 100000 in
set_option maxHeartbeats 800000 in
theorem onDisk7 {B : Nat} {o : Nat → Nat} {W : World} {pw : Nat} {vcs : Value} {N i v : Nat} (hI : InvV2 B o W pw vcs N i v) (hF : Few N) (a b c : Int) (s : ByteArray) (vk vp : Value) (bs : List Bool) (hO : OpOk B W b c s vk bs) (_hvp : ∃ a n c, vp = .slice a n c) :
    Calls Tryz.prog 74 #[.pointer (some ⟨pw, 0, none⟩), .pointer (some ⟨v, 0, none⟩), opv 7 a b c s vk vp] W fun e w' => e = .returned (.bool true) ∧ Done2 B o W pw vcs N w' := by
  have hK : Keeps (fun _ => False) W (W.alloc (.cells #[.int .i64 7, .int .i64 a, .int .i64 b, .int .i64 c, .string s, vk, vp] 81)) := (Keeps.refl _ _).alloc _
  obtain ⟨_, _, _, _, _, _, hpl, _⟩ := hI.open hF
  rename_i hx1 hx2 hx3 hx4 hx5 hx6; clear hx1 hx2 hx3 hx4 hx5 hx6
  have hBW : B ≤ W.heap.size := by obtain ⟨_, _, _, _, _, h, _⟩ := hI.open hF; exact h
  obtain ⟨x, hV, hb, hstep, h12, h13, hpw, vvs, vb, ls, h1, h4, hpT, hNl, hlook⟩ := (hI.same hK).open hF
  have hO0 := hO.same hK (fun _ _ f => f) hBW
  have hN := few_N N hF
  have hN16 := few_strs N hF
  have hvk : ∃ a n c, vk = .slice a n c := by
    rcases hO.k with ⟨rfl, _⟩ | ⟨_, _, rfl, _⟩ <;> exact ⟨_, _, _, rfl⟩
  have HSTEP := hide hstep
  have HLOOK := hide hlook
  have HC := hide (created_any hV hb hN a b c s vk vp)
  clear hI hO hstep hlook hV hb h1 h4 hO0 hF h12 hNl
  go_enter Tryz.func74, Tryz.ntmps74
  go_wp2_with fail
  go_at_call 122
  refine (unhide HC).mono ?_
  rintro e w' ⟨rfl, hD⟩
  have HD := hide hD
  clear hD
  go_wp2
  go_ret
  exact ⟨rfl, (unhide HSTEP _ (unhide HD)).back hK hpl⟩

set_option maxRecDepth 100000 in
set_option maxHeartbeats 800000 in
theorem onDisk8 {B : Nat} {o : Nat → Nat} {W : World} {pw : Nat} {vcs : Value} {N i v : Nat} (hI : InvV2 B o W pw vcs N i v) (hF : Few N) (a b c : Int) (s : ByteArray) (vk vp : Value) (bs : List Bool) (hO : OpOk B W b c s vk bs) (_hvp : ∃ a n c, vp = .slice a n c) :
    Calls Tryz.prog 74 #[.pointer (some ⟨pw, 0, none⟩), .pointer (some ⟨v, 0, none⟩), opv 8 a b c s vk vp] W fun e w' => e = .returned (.bool true) ∧ Done2 B o W pw vcs N w' := by
  have hK : Keeps (fun _ => False) W (W.alloc (.cells #[.int .i64 8, .int .i64 a, .int .i64 b, .int .i64 c, .string s, vk, vp] 81)) := (Keeps.refl _ _).alloc _
  obtain ⟨_, _, _, _, _, _, hpl, _⟩ := hI.open hF
  rename_i hx1 hx2 hx3 hx4 hx5 hx6; clear hx1 hx2 hx3 hx4 hx5 hx6
  have hBW : B ≤ W.heap.size := by obtain ⟨_, _, _, _, _, h, _⟩ := hI.open hF; exact h
  obtain ⟨x, hV, hb, hstep, h12, h13, hpw, vvs, vb, ls, h1, h4, hpT, hNl, hlook⟩ := (hI.same hK).open hF
  have hO0 := hO.same hK (fun _ _ f => f) hBW
  have hN := few_N N hF
  have hN16 := few_strs N hF
  have hvk : ∃ a n c, vk = .slice a n c := by
    rcases hO.k with ⟨rfl, _⟩ | ⟨_, _, rfl, _⟩ <;> exact ⟨_, _, _, rfl⟩
  have HSTEP := hide hstep
  have HLOOK := hide hlook
  have HC := hide (opened_any hV hb hN a b c s vk vp)
  clear hI hO hstep hlook hV hb h1 h4 hO0 hF h12 hNl
  go_enter Tryz.func74, Tryz.ntmps74
  go_wp2_with fail
  go_at_call 123
  refine (unhide HC).mono ?_
  rintro e w' ⟨rfl, hD⟩
  have HD := hide hD
  clear hD
  go_wp2
  go_ret
  exact ⟨rfl, (unhide HSTEP _ (unhide HD)).back hK hpl⟩

set_option maxRecDepth 100000 in
set_option maxHeartbeats 800000 in
theorem onDisk14 {B : Nat} {o : Nat → Nat} {W : World} {pw : Nat} {vcs : Value} {N i v : Nat} (hI : InvV2 B o W pw vcs N i v) (hF : Few N) (a b c : Int) (s : ByteArray) (vk vp : Value) (bs : List Bool) (hO : OpOk B W b c s vk bs) (_hvp : ∃ a n c, vp = .slice a n c) :
    Calls Tryz.prog 74 #[.pointer (some ⟨pw, 0, none⟩), .pointer (some ⟨v, 0, none⟩), opv 14 a b c s vk vp] W fun e w' => e = .returned (.bool true) ∧ Done2 B o W pw vcs N w' := by
  have hK : Keeps (fun _ => False) W (W.alloc (.cells #[.int .i64 14, .int .i64 a, .int .i64 b, .int .i64 c, .string s, vk, vp] 81)) := (Keeps.refl _ _).alloc _
  obtain ⟨_, _, _, _, _, _, hpl, _⟩ := hI.open hF
  rename_i hx1 hx2 hx3 hx4 hx5 hx6; clear hx1 hx2 hx3 hx4 hx5 hx6
  have hBW : B ≤ W.heap.size := by obtain ⟨_, _, _, _, _, h, _⟩ := hI.open hF; exact h
  obtain ⟨x, hV, hb, hstep, h12, h13, hpw, vvs, vb, ls, h1, h4, hpT, hNl, hlook⟩ := (hI.same hK).open hF
  have hO0 := hO.same hK (fun _ _ f => f) hBW
  have hN := few_N N hF
  have hN16 := few_strs N hF
  have hvk : ∃ a n c, vk = .slice a n c := by
    rcases hO.k with ⟨rfl, _⟩ | ⟨_, _, rfl, _⟩ <;> exact ⟨_, _, _, rfl⟩
  have HSTEP := hide hstep
  have HLOOK := hide hlook
  obtain ⟨vj, vr, c3, c4, hcase⟩ := hV.cells
  have HST := hide (StepT.stay hV hb)
  rcases hcase with ⟨⟨n, rfl⟩, rfl, rfl⟩ | ⟨⟨j, m, rfl⟩, rfl, ⟨rj, rfl⟩⟩ | ⟨j, m, rfl, hu, ⟨pj, rfl⟩, ⟨rj, rfl⟩⟩
  · clear hI hO hstep hlook hV hb h1 h4 hO0 hF h12 hNl
    go_enter Tryz.func74, Tryz.ntmps74
    go_wp2
    go_ret
    exact ⟨rfl, (unhide HSTEP _ (unhide HST)).back hK hpl⟩
  · have HC := hide (moved_any2 hV hb hN)
    clear hI hO hstep hlook hV hb h1 h4 hO0 hF h12 hNl
    go_enter Tryz.func74, Tryz.ntmps74
    go_wp2_with fail
    go_at_call 124
    refine (unhide HC).mono ?_
    rintro e w' ⟨rfl, hD⟩
    have HD := hide hD
    clear hD
    go_wp2
    go_ret
    exact ⟨rfl, (unhide HSTEP _ (unhide HD)).back hK hpl⟩
  · have HC := hide (moved_any2 hV hb hN)
    clear hI hO hstep hlook hV hb h1 h4 hO0 hF h12 hNl hu
    go_enter Tryz.func74, Tryz.ntmps74
    go_wp2_with fail
    go_at_call 124
    refine (unhide HC).mono ?_
    rintro e w' ⟨rfl, hD⟩
    have HD := hide hD
    clear hD
    go_wp2
    go_ret
    exact ⟨rfl, (unhide HSTEP _ (unhide HD)).back hK hpl⟩

set_option maxRecDepth 100000 in
set_option maxHeartbeats 800000 in
theorem onDisk9 {B : Nat} {o : Nat → Nat} {W : World} {pw : Nat} {vcs : Value} {N i v : Nat} (hI : InvV2 B o W pw vcs N i v) (hF : Few N) (a b c : Int) (s : ByteArray) (vk vp : Value) (bs : List Bool) (hO : OpOk B W b c s vk bs) (_hvp : ∃ a n c, vp = .slice a n c) :
    Calls Tryz.prog 74 #[.pointer (some ⟨pw, 0, none⟩), .pointer (some ⟨v, 0, none⟩), opv 9 a b c s vk vp] W fun e w' => e = .returned (.bool true) ∧ Done2 B o W pw vcs N w' := by
  have hK : Keeps (fun _ => False) W (W.alloc (.cells #[.int .i64 9, .int .i64 a, .int .i64 b, .int .i64 c, .string s, vk, vp] 81)) := (Keeps.refl _ _).alloc _
  obtain ⟨_, _, _, _, _, _, hpl, _⟩ := hI.open hF
  rename_i hx1 hx2 hx3 hx4 hx5 hx6; clear hx1 hx2 hx3 hx4 hx5 hx6
  have hBW : B ≤ W.heap.size := by obtain ⟨_, _, _, _, _, h, _⟩ := hI.open hF; exact h
  obtain ⟨x, hV, hb, hstep, h12, h13, hpw, vvs, vb, ls, h1, h4, hpT, hNl, hlook⟩ := (hI.same hK).open hF
  have hO0 := hO.same hK (fun _ _ f => f) hBW
  have hN := few_N N hF
  have hN16 := few_strs N hF
  have hvk : ∃ a n c, vk = .slice a n c := by
    rcases hO.k with ⟨rfl, _⟩ | ⟨_, _, rfl, _⟩ <;> exact ⟨_, _, _, rfl⟩
  have HSTEP := hide hstep
  have HLOOK := hide hlook
  obtain ⟨vj, vr, c3, c4, hcase⟩ := hV.cells
  have HST := hide (StepT.stay hV hb)
  rcases hcase with ⟨⟨n, rfl⟩, rfl, rfl⟩ | ⟨⟨j, m, rfl⟩, rfl, ⟨rj, rfl⟩⟩ | ⟨j, m, rfl, hu, ⟨pj, rfl⟩, ⟨rj, rfl⟩⟩
  · clear hI hO hstep hlook hV hb h1 h4 hO0 hF h12 hNl
    go_enter Tryz.func74, Tryz.ntmps74
    go_wp2
    go_ret
    exact ⟨rfl, (unhide HSTEP _ (unhide HST)).back hK hpl⟩
  · clear hI hO hstep hlook hV hb h1 h4 hO0 hF h12 hNl
    go_enter Tryz.func74, Tryz.ntmps74
    go_wp2
    go_ret
    exact ⟨rfl, (unhide HSTEP _ (unhide HST)).back hK hpl⟩
  · have HC := hide (noted9 (pw := pw) hV hb hN hN16 hu a b c s vk vp hO0.s)
    clear hI hO hstep hlook hV hb h1 h4 hO0 hF h12 hNl hu
    go_enter Tryz.func74, Tryz.ntmps74
    go_wp2_with fail
    go_at_call 126
    refine (unhide HC).mono ?_
    rintro e w' ⟨rfl, hD⟩
    have HD := hide hD
    clear hD
    go_wp2
    go_ret
    exact ⟨rfl, (unhide HSTEP _ (unhide HD)).back hK hpl⟩

set_option maxRecDepth 100000 in
set_option maxHeartbeats 800000 in
theorem onDisk10 {B : Nat} {o : Nat → Nat} {W : World} {pw : Nat} {vcs : Value} {N i v : Nat} (hI : InvV2 B o W pw vcs N i v) (hF : Few N) (a b c : Int) (s : ByteArray) (vk vp : Value) (bs : List Bool) (hO : OpOk B W b c s vk bs) (hvp : ∃ a n c, vp = .slice a n c) :
    Calls Tryz.prog 74 #[.pointer (some ⟨pw, 0, none⟩), .pointer (some ⟨v, 0, none⟩), opv 10 a b c s vk vp] W fun e w' => e = .returned (.bool true) ∧ Done2 B o W pw vcs N w' := by
  have hK : Keeps (fun _ => False) W (W.alloc (.cells #[.int .i64 10, .int .i64 a, .int .i64 b, .int .i64 c, .string s, vk, vp] 81)) := (Keeps.refl _ _).alloc _
  obtain ⟨_, _, _, _, _, _, hpl, _⟩ := hI.open hF
  rename_i hx1 hx2 hx3 hx4 hx5 hx6; clear hx1 hx2 hx3 hx4 hx5 hx6
  have hBW : B ≤ W.heap.size := by obtain ⟨_, _, _, _, _, h, _⟩ := hI.open hF; exact h
  obtain ⟨x, hV, hb, hstep, h12, h13, hpw, vvs, vb, ls, h1, h4, hpT, hNl, hlook⟩ := (hI.same hK).open hF
  have hO0 := hO.same hK (fun _ _ f => f) hBW
  have hN := few_N N hF
  have hN16 := few_strs N hF
  have hvk : ∃ a n c, vk = .slice a n c := by
    rcases hO.k with ⟨rfl, _⟩ | ⟨_, _, rfl, _⟩ <;> exact ⟨_, _, _, rfl⟩
  have HSTEP := hide hstep
  have HLOOK := hide hlook
  obtain ⟨vj, vr, c3, c4, hcase⟩ := hV.cells
  have HST := hide (StepT.stay hV hb)
  rcases hcase with ⟨⟨n, rfl⟩, rfl, rfl⟩ | ⟨⟨j, m, rfl⟩, rfl, ⟨rj, rfl⟩⟩ | ⟨j, m, rfl, hu, ⟨pj, rfl⟩, ⟨rj, rfl⟩⟩
  · clear hI hO hstep hlook hV hb h1 h4 hO0 hF h12 hNl
    go_enter Tryz.func74, Tryz.ntmps74
    go_wp2
    go_ret
    exact ⟨rfl, (unhide HSTEP _ (unhide HST)).back hK hpl⟩
  · clear hI hO hstep hlook hV hb h1 h4 hO0 hF h12 hNl
    go_enter Tryz.func74, Tryz.ntmps74
    go_wp2
    go_ret
    exact ⟨rfl, (unhide HSTEP _ (unhide HST)).back hK hpl⟩
  · have HC := hide (noted10 (pw := pw) hV hb hN a b c s vk vp hvp hvk)
    clear hI hO hstep hlook hV hb h1 h4 hO0 hF h12 hNl hu
    go_enter Tryz.func74, Tryz.ntmps74
    go_wp2_with fail
    go_at_call 126
    refine (unhide HC).mono ?_
    rintro e w' ⟨rfl, hD⟩
    have HD := hide hD
    clear hD
    go_wp2
    go_ret
    exact ⟨rfl, (unhide HSTEP _ (unhide HD)).back hK hpl⟩

set_option maxRecDepth 100000 in
set_option maxHeartbeats 800000 in
theorem onDisk11 {B : Nat} {o : Nat → Nat} {W : World} {pw : Nat} {vcs : Value} {N i v : Nat} (hI : InvV2 B o W pw vcs N i v) (hF : Few N) (a b c : Int) (s : ByteArray) (vk vp : Value) (bs : List Bool) (hO : OpOk B W b c s vk bs) (_hvp : ∃ a n c, vp = .slice a n c) :
    Calls Tryz.prog 74 #[.pointer (some ⟨pw, 0, none⟩), .pointer (some ⟨v, 0, none⟩), opv 11 a b c s vk vp] W fun e w' => e = .returned (.bool true) ∧ Done2 B o W pw vcs N w' := by
  have hK : Keeps (fun _ => False) W (W.alloc (.cells #[.int .i64 11, .int .i64 a, .int .i64 b, .int .i64 c, .string s, vk, vp] 81)) := (Keeps.refl _ _).alloc _
  obtain ⟨_, _, _, _, _, _, hpl, _⟩ := hI.open hF
  rename_i hx1 hx2 hx3 hx4 hx5 hx6; clear hx1 hx2 hx3 hx4 hx5 hx6
  have hBW : B ≤ W.heap.size := by obtain ⟨_, _, _, _, _, h, _⟩ := hI.open hF; exact h
  obtain ⟨x, hV, hb, hstep, h12, h13, hpw, vvs, vb, ls, h1, h4, hpT, hNl, hlook⟩ := (hI.same hK).open hF
  have hO0 := hO.same hK (fun _ _ f => f) hBW
  have hN := few_N N hF
  have hN16 := few_strs N hF
  have hvk : ∃ a n c, vk = .slice a n c := by
    rcases hO.k with ⟨rfl, _⟩ | ⟨_, _, rfl, _⟩ <;> exact ⟨_, _, _, rfl⟩
  have HSTEP := hide hstep
  have HLOOK := hide hlook
  obtain ⟨vj, vr, c3, c4, hcase⟩ := hV.cells
  have HST := hide (StepT.stay hV hb)
  rcases hcase with ⟨⟨n, rfl⟩, rfl, rfl⟩ | ⟨⟨j, m, rfl⟩, rfl, ⟨rj, rfl⟩⟩ | ⟨j, m, rfl, hu, ⟨pj, rfl⟩, ⟨rj, rfl⟩⟩
  · clear hI hO hstep hlook hV hb h1 h4 hO0 hF h12 hNl
    go_enter Tryz.func74, Tryz.ntmps74
    go_wp2
    go_ret
    exact ⟨rfl, (unhide HSTEP _ (unhide HST)).back hK hpl⟩
  · clear hI hO hstep hlook hV hb h1 h4 hO0 hF h12 hNl
    go_enter Tryz.func74, Tryz.ntmps74
    go_wp2
    go_ret
    exact ⟨rfl, (unhide HSTEP _ (unhide HST)).back hK hpl⟩
  · have HC := hide (noted11 (pw := pw) hV hb hN a b c s vk vp hO0.s)
    clear hI hO hstep hlook hV hb h1 h4 hO0 hF h12 hNl hu
    go_enter Tryz.func74, Tryz.ntmps74
    go_wp2_with fail
    go_at_call 126
    refine (unhide HC).mono ?_
    rintro e w' ⟨rfl, hD⟩
    have HD := hide hD
    clear hD
    go_wp2
    go_ret
    exact ⟨rfl, (unhide HSTEP _ (unhide HD)).back hK hpl⟩

set_option maxRecDepth 100000 in
set_option maxHeartbeats 800000 in
theorem onDisk12 {B : Nat} {o : Nat → Nat} {W : World} {pw : Nat} {vcs : Value} {N i v : Nat} (hI : InvV2 B o W pw vcs N i v) (hF : Few N) (a b c : Int) (s : ByteArray) (vk vp : Value) (bs : List Bool) (hO : OpOk B W b c s vk bs) (_hvp : ∃ a n c, vp = .slice a n c) :
    Calls Tryz.prog 74 #[.pointer (some ⟨pw, 0, none⟩), .pointer (some ⟨v, 0, none⟩), opv 12 a b c s vk vp] W fun e w' => e = .returned (.bool true) ∧ Done2 B o W pw vcs N w' := by
  have hK : Keeps (fun _ => False) W (W.alloc (.cells #[.int .i64 12, .int .i64 a, .int .i64 b, .int .i64 c, .string s, vk, vp] 81)) := (Keeps.refl _ _).alloc _
  obtain ⟨_, _, _, _, _, _, hpl, _⟩ := hI.open hF
  rename_i hx1 hx2 hx3 hx4 hx5 hx6; clear hx1 hx2 hx3 hx4 hx5 hx6
  have hBW : B ≤ W.heap.size := by obtain ⟨_, _, _, _, _, h, _⟩ := hI.open hF; exact h
  obtain ⟨x, hV, hb, hstep, h12, h13, hpw, vvs, vb, ls, h1, h4, hpT, hNl, hlook⟩ := (hI.same hK).open hF
  have hO0 := hO.same hK (fun _ _ f => f) hBW
  have hN := few_N N hF
  have hN16 := few_strs N hF
  have hvk : ∃ a n c, vk = .slice a n c := by
    rcases hO.k with ⟨rfl, _⟩ | ⟨_, _, rfl, _⟩ <;> exact ⟨_, _, _, rfl⟩
  have HSTEP := hide hstep
  have HLOOK := hide hlook
  obtain ⟨vj, vr, c3, c4, hcase⟩ := hV.cells
  have HST := hide (StepT.stay hV hb)
  rcases hcase with ⟨⟨n, rfl⟩, rfl, rfl⟩ | ⟨⟨j, m, rfl⟩, rfl, ⟨rj, rfl⟩⟩ | ⟨j, m, rfl, hu, ⟨pj, rfl⟩, ⟨rj, rfl⟩⟩
  · clear hI hO hstep hlook hV hb h1 h4 hO0 hF h12 hNl
    go_enter Tryz.func74, Tryz.ntmps74
    go_wp2
    go_ret
    exact ⟨rfl, (unhide HSTEP _ (unhide HST)).back hK hpl⟩
  · clear hI hO hstep hlook hV hb h1 h4 hO0 hF h12 hNl
    go_enter Tryz.func74, Tryz.ntmps74
    go_wp2
    go_ret
    exact ⟨rfl, (unhide HSTEP _ (unhide HST)).back hK hpl⟩
  · have HC := hide (noted12 hV hb hN hu h1 h4 hpT hNl a b c s vk vp)
    clear hI hO hstep hlook hV hb h1 h4 hO0 hF h12 hNl hu
    go_enter Tryz.func74, Tryz.ntmps74
    go_wp2_with fail
    go_at_call 126
    refine (unhide HC).mono ?_
    rintro e w' ⟨rfl, hD⟩
    have HD := hide hD
    clear hD
    go_wp2
    go_ret
    exact ⟨rfl, (unhide HLOOK _ (unhide HD)).back hK hpl⟩

set_option maxRecDepth 100000 in
set_option maxHeartbeats 800000 in
theorem onDisk13 {B : Nat} {o : Nat → Nat} {W : World} {pw : Nat} {vcs : Value} {N i v : Nat} (hI : InvV2 B o W pw vcs N i v) (hF : Few N) (a b c : Int) (s : ByteArray) (vk vp : Value) (bs : List Bool) (hO : OpOk B W b c s vk bs) (_hvp : ∃ a n c, vp = .slice a n c) :
    Calls Tryz.prog 74 #[.pointer (some ⟨pw, 0, none⟩), .pointer (some ⟨v, 0, none⟩), opv 13 a b c s vk vp] W fun e w' => e = .returned (.bool true) ∧ Done2 B o W pw vcs N w' := by
  have hK : Keeps (fun _ => False) W (W.alloc (.cells #[.int .i64 13, .int .i64 a, .int .i64 b, .int .i64 c, .string s, vk, vp] 81)) := (Keeps.refl _ _).alloc _
  obtain ⟨_, _, _, _, _, _, hpl, _⟩ := hI.open hF
  rename_i hx1 hx2 hx3 hx4 hx5 hx6; clear hx1 hx2 hx3 hx4 hx5 hx6
  have hBW : B ≤ W.heap.size := by obtain ⟨_, _, _, _, _, h, _⟩ := hI.open hF; exact h
  obtain ⟨x, hV, hb, hstep, h12, h13, hpw, vvs, vb, ls, h1, h4, hpT, hNl, hlook⟩ := (hI.same hK).open hF
  have hO0 := hO.same hK (fun _ _ f => f) hBW
  have hN := few_N N hF
  have hN16 := few_strs N hF
  have hvk : ∃ a n c, vk = .slice a n c := by
    rcases hO.k with ⟨rfl, _⟩ | ⟨_, _, rfl, _⟩ <;> exact ⟨_, _, _, rfl⟩
  have HSTEP := hide hstep
  have HLOOK := hide hlook
  obtain ⟨vj, vr, c3, c4, hcase⟩ := hV.cells
  have HST := hide (StepT.stay hV hb)
  rcases hcase with ⟨⟨n, rfl⟩, rfl, rfl⟩ | ⟨⟨j, m, rfl⟩, rfl, ⟨rj, rfl⟩⟩ | ⟨j, m, rfl, hu, ⟨pj, rfl⟩, ⟨rj, rfl⟩⟩
  · clear hI hO hstep hlook hV hb h1 h4 hO0 hF h12 hNl
    go_enter Tryz.func74, Tryz.ntmps74
    go_wp2
    go_ret
    exact ⟨rfl, (unhide HSTEP _ (unhide HST)).back hK hpl⟩
  · clear hI hO hstep hlook hV hb h1 h4 hO0 hF h12 hNl
    go_enter Tryz.func74, Tryz.ntmps74
    go_wp2
    go_ret
    exact ⟨rfl, (unhide HSTEP _ (unhide HST)).back hK hpl⟩
  · have HC := hide (noted13 hV h1 h4 hpT hNl a b c s vk vp)
    clear hI hO hstep hlook hV hb h1 h4 hO0 hF h12 hNl hu
    go_enter Tryz.func74, Tryz.ntmps74
    go_wp2_with fail
    go_at_call 126
    refine (unhide HC).mono ?_
    rintro e w' ⟨rfl, hD⟩
    have HD := hide hD
    clear hD
    go_wp2
    go_ret
    exact ⟨rfl, (unhide HLOOK _ (unhide HD)).back hK hpl⟩

theorem onDisk_any2 {B : Nat} {o : Nat → Nat} {W : World} {pw : Nat} {vcs : Value} {N i v : Nat} (hI : InvV2 B o W pw vcs N i v) (hF : Few N) (k a b c : Int) (s : ByteArray) (vk vp : Value) (bs : List Bool) (hO : OpOk B W b c s vk bs) (hvp : ∃ a n c, vp = .slice a n c) (hk : k = 6 ∨ k = 7 ∨ k = 8 ∨ k = 9 ∨ k = 10 ∨ k = 11 ∨ k = 12 ∨ k = 13 ∨ k = 14) :
    Calls Tryz.prog 74 #[.pointer (some ⟨pw, 0, none⟩), .pointer (some ⟨v, 0, none⟩), opv k a b c s vk vp] W fun e w' => e = .returned (.bool true) ∧ Done2 B o W pw vcs N w' := by
  rcases hk with rfl | rfl | rfl | rfl | rfl | rfl | rfl | rfl | rfl
  · exact onDisk6 hI hF a b c s vk vp bs hO hvp
  · exact onDisk7 hI hF a b c s vk vp bs hO hvp
  · exact onDisk8 hI hF a b c s vk vp bs hO hvp
  · exact onDisk9 hI hF a b c s vk vp bs hO hvp
  · exact onDisk10 hI hF a b c s vk vp bs hO hvp
  · exact onDisk11 hI hF a b c s vk vp bs hO hvp
  · exact onDisk12 hI hF a b c s vk vp bs hO hvp
  · exact onDisk13 hI hF a b c s vk vp bs hO hvp
  · exact onDisk14 hI hF a b c s vk vp bs hO hvp

end Go.Proofs.YthbmmbgkchiajaaGreat
