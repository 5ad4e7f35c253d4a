
/- A step that checks a configuration. -/
import Derived.Test.YthbmmbgkchiajaaGreatCCheckR
import Derived.Test.YthbmmbgkchiajaaGreatPlays
namespace Go.Proofs.YthbmmbgkchiajaaGreat
open Go.RowKit

/-- The i-th configuration of a list that lies at ac, below B. -/
def CfgAt (B : Nat) (w : World) (ac : Option Addr) (i : Nat) : Prop :=
  ∃ g o n v r p t, ac = some ⟨g, o, none⟩ ∧ g < B ∧ w.cell? ⟨g, o + i * 5, none⟩ = some (.int .i64 n) ∧ w.cell? ⟨g, o + i * 5 + 1, none⟩ = some (.int .i64 v) ∧ w.cell? ⟨g, o + i * 5 + 2, none⟩ = some (.int .i64 r) ∧ w.cell? ⟨g, o + i * 5 + 3, none⟩ = some (.int .i64 p) ∧ w.cell? ⟨g, o + i * 5 + 4, none⟩ = some (.int .i64 t)

theorem CfgAt.up {B B' : Nat} {w w' : World} {ac : Option Addr} {i : Nat} (h : CfgAt B w ac i) (hB : B ≤ B') (hk : ∀ k x, k < B → w'.cell? ⟨k, x, none⟩ = w.cell? ⟨k, x, none⟩) : CfgAt B' w' ac i := by
  obtain ⟨g, o, n, v, r, p, t, e, hg, e0, e1, e2, e3, e4⟩ := h
  exact ⟨g, o, n, v, r, p, t, e, Nat.lt_of_lt_of_le hg hB, (hk _ _ hg).trans e0, (hk _ _ hg).trans e1, (hk _ _ hg).trans e2, (hk _ _ hg).trans e3, (hk _ _ hg).trans e4⟩

/-- What the statement that takes a configuration reads. -/
def ChkS (pw ob g og pk nc cc : Nat) (a n v r p t : Int) (w : World) : Prop :=
  w.cell? ⟨pw, 0, none⟩ = some (.slice (some ⟨g, og, none⟩) nc cc) ∧ w.cell? ⟨ob, 1, none⟩ = some (.int .i64 a) ∧ w.cell? ⟨g, og + pk * 5, none⟩ = some (.int .i64 n) ∧ w.cell? ⟨g, og + pk * 5 + 1, none⟩ = some (.int .i64 v) ∧ w.cell? ⟨g, og + pk * 5 + 2, none⟩ = some (.int .i64 r) ∧ w.cell? ⟨g, og + pk * 5 + 3, none⟩ = some (.int .i64 p) ∧ w.cell? ⟨g, og + pk * 5 + 4, none⟩ = some (.int .i64 t)

theorem ChkS.up {pw ob g og pk nc cc : Nat} {a n v r p t : Int} {w w' : World} (h : ChkS pw ob g og pk nc cc a n v r p t w) (hk : Keeps (fun _ => False) w w') : ChkS pw ob g og pk nc cc a n v r p t w' := by
  obtain ⟨h1, h2, h3, h4, h5, h6, h7⟩ := h
  have q : ∀ (b x : Nat) (u : Value), w.cell? ⟨b, x, none⟩ = some u → w'.cell? ⟨b, x, none⟩ = some u := fun b x u e => (hk.cell (p := ⟨b, x, none⟩) (World.block_lt_of_cell? w _ e) (fun f => f)).trans e
  exact ⟨q _ _ _ h1, q _ _ _ h2, q _ _ _ h3, q _ _ _ h4, q _ _ _ h5, q _ _ _ h6, q _ _ _ h7⟩

set_option maxRecDepth 100000 in
set_option maxHeartbeats 1600000 in
theorem step_check {B : Nat} {o : Nat → Nat} {w : World} {pw : Nat} {ac : Option Addr} {nc cc N : Nat} (hI : Inv B o w pw (.slice ac nc cc) N) (a b c : Int) (s : ByteArray) (vk vp : Value)
    (ha0 : -9223372036854775808 ≤ a) (ha1 : a ≤ 9223372036854775807) (hnc : nc ≤ 9223372036854775807) (hcc : nc ≤ cc) (hC : ∀ i, i < nc → CfgAt B w ac i) :
    Calls Tryz.prog 39 #[.pointer (some ⟨pw, 0, none⟩), opv 20 a b c s vk vp] w fun e w' => e = .returned (.bool true) ∧ (∃ o', Inv B o' w' pw (.slice ac nc cc) (N + 1)) ∧ Keeps (fun k => B ≤ k) w w' := by
  have hK : Keeps (fun _ => False) w (w.alloc (.cells #[.int .i64 20, .int .i64 a, .int .i64 b, .int .i64 c, .string s, vk, vp] 81)) := (Keeps.refl _ _).alloc _
  have hob := heap_alloc_last w (.cells #[.int .i64 20, .int .i64 a, .int .i64 b, .int .i64 c, .string s, vk, vp] 81)
  have HI := hide hI
  have hB : B ≤ w.heap.size := by obtain ⟨vvs, vb, vs, ms, ls, og, h1, h2, h3, h4, h5, h6, h7, h8, h9, h10, h11, h12, h13⟩ := hI; exact h13
  have c0 : w.cell? ⟨pw, 0, none⟩ = some (.slice ac nc cc) := by obtain ⟨vvs, vb, vs, ms, ls, og, h1, h2, h3, h4, h5, h6, h7, h8, h9, h10, h11, h12, h13⟩ := hI; exact cell_of_heap h1
  have hpl := World.block_lt_of_cell? w _ c0
  have c0W := (hK.cell (p := ⟨pw, 0, none⟩) hpl (fun f => f)).trans c0
  clear hI
  by_cases hn : nc = 0
  · subst hn
    clear hC hob
    go_enter Tryz.func39, Tryz.ntmps39
    go_wp2
    go_ret
    exact ⟨rfl, ⟨o, ((unhide HI).same hK (fun _ _ _ f => f)).more⟩, hK.mono (fun _ _ f => f.elim)⟩
  · have hpk := pickOf_lt a nc (by omega)
    generalize hpke : pickOf a nc = pk at *
    have HPK := hide hpke
    obtain ⟨g, og, n, v, r, p, t, rfl, hg, e0, e1, e2, e3, e4⟩ := hC pk hpk
    have q : ∀ x : Nat, (w.alloc (.cells #[.int .i64 20, .int .i64 a, .int .i64 b, .int .i64 c, .string s, vk, vp] 81)).cell? ⟨g, x, none⟩ = w.cell? ⟨g, x, none⟩ := fun x => hK.cell (p := ⟨g, x, none⟩) (Nat.lt_of_lt_of_le hg hB) (fun f => f)
    have f0 := (q _).trans e0
    have f1 := (q _).trans e1
    have f2 := (q _).trans e2
    have f3 := (q _).trans e3
    have f4 := (q _).trans e4
    have o1 : (w.alloc (.cells #[.int .i64 20, .int .i64 a, .int .i64 b, .int .i64 c, .string s, vk, vp] 81)).cell? ⟨w.heap.size, 1, none⟩ = some (.int .i64 a) := cell_of_heap hob
    have hn0 : (1 : Int) ≤ (nc : Int) := by omega
    have hp0 : (0 : Int) ≤ (pk : Int) := Int.natCast_nonneg _
    have hp1 : (pk : Int) < (nc : Int) := by omega
    have hne : ((nc : Int) == 0) = false := by rw [beq_eq_false_iff_ne]; omega
    have o0 : (w.alloc (.cells #[.int .i64 20, .int .i64 a, .int .i64 b, .int .i64 c, .string s, vk, vp] 81)).cell? ⟨w.heap.size, 0, none⟩ = some (.int .i64 20) := cell_of_heap hob
    have hSS : ChkS pw w.heap.size g og pk nc cc a n v r p t (w.alloc (.cells #[.int .i64 20, .int .i64 a, .int .i64 b, .int .i64 c, .string s, vk, vp] 81)) := ⟨c0W, o1, f0, f1, f2, f3, f4⟩
    have HW := hide hK
    clear hC q e0 e1 e2 e3 e4 hob hpke
    go_enter Tryz.func39, Tryz.ntmps39
    go_wp2_with fail
    generalize hW0 : w.alloc (.cells #[.int .i64 20, .int .i64 a, .int .i64 b, .int .i64 c, .string s, vk, vp] 81) = W0 at *
    clear hW0
    go_region_held3 (fun w' => w'.cell? ⟨pw, 0, none⟩ = some (.slice (some ⟨g, og, none⟩) nc cc) ∧ w'.cell? ⟨w.heap.size, 1, none⟩ = some (.int .i64 a) ∧ w'.cell? ⟨g, og + pk * 5, none⟩ = some (.int .i64 n) ∧ w'.cell? ⟨g, og + pk * 5 + 1, none⟩ = some (.int .i64 v) ∧ w'.cell? ⟨g, og + pk * 5 + 2, none⟩ = some (.int .i64 r) ∧ w'.cell? ⟨g, og + pk * 5 + 3, none⟩ = some (.int .i64 p) ∧ w'.cell? ⟨g, og + pk * 5 + 4, none⟩ = some (.int .i64 t))
      (first | exact hSS | exact hSS.up ((Keeps.refl _ _).alloc _) | exact hSS.up ((Keeps.refl _ _).drew.alloc _)) ((go_at_call 75; refine (pick_any a nc _ ha0 ha1 (by omega) hnc).mono ?_; rintro e w' ⟨rfl, rfl⟩; rw [unhide HPK]))
    all_goals
      have hk1 : Keeps (fun _ => False) W0 (W0.alloc (.cells #[.int .i64 n, .int .i64 v, .int .i64 r, .int .i64 p, .int .i64 t] 29)) := (Keeps.refl _ _).alloc _
      have ho := heap_alloc_last W0 (.cells #[.int .i64 n, .int .i64 v, .int .i64 r, .int .i64 p, .int .i64 t] 29)
      have p0 := (hk1.cell (p := ⟨w.heap.size, 0, none⟩) (World.block_lt_of_cell? _ _ o0) (fun f => f)).trans o0
      have hl : W0.heap.size < (W0.alloc (.cells #[.int .i64 n, .int .i64 v, .int .i64 r, .int .i64 p, .int .i64 t] 29)).heap.size := by simp
      have d0 := cell_of_heap (o := 0) ho
      have d1 := cell_of_heap (o := 1) ho
      have d2 := cell_of_heap (o := 2) ho
      have d3 := cell_of_heap (o := 3) ho
      have d4 := cell_of_heap (o := 4) ho
      simp only [List.getElem?_toArray, List.getElem?_cons_zero, List.getElem?_cons_succ] at d0 d1 d2 d3 d4
      generalize hW1 : W0.alloc (.cells #[.int .i64 n, .int .i64 v, .int .i64 r, .int .i64 p, .int .i64 t] 29) = W1 at *
      clear hW1 ho hSS o0 o1 c0W f0 f1 f2 f3 f4
      go_wp2_with fail
      go_at_call 77
      refine (pCheck_any n v r p t _).mono ?_
      rintro e w1 ⟨rfl, hk2⟩
      have d0 := (hk2.cell (p := ⟨W0.heap.size, 0, none⟩) hl (fun f => f)).trans d0
      have d1 := (hk2.cell (p := ⟨W0.heap.size, 1, none⟩) hl (fun f => f)).trans d1
      have d2 := (hk2.cell (p := ⟨W0.heap.size, 2, none⟩) hl (fun f => f)).trans d2
      have d3 := (hk2.cell (p := ⟨W0.heap.size, 3, none⟩) hl (fun f => f)).trans d3
      have d4 := (hk2.cell (p := ⟨W0.heap.size, 4, none⟩) hl (fun f => f)).trans d4
      go_wp2_with fail
      go_at_call 78
      refine (rCheck_any n v r p t _).mono ?_
      rintro e w2 ⟨rfl, hk3⟩
      have HE := hide (((hK.trans hk1 (fun _ _ f => f)).drew.trans hk2 (fun _ _ f => f)).trans hk3 (fun _ _ f => f))
      generalize chk n v r p t = ch
      clear d0 d1 d2 d3 d4 hk1 hk2 hk3 hK
      go_wp2
      go_ret
      exact ⟨by simp, ⟨o, ((unhide HI).same (unhide HE) (fun _ _ _ f => f)).more⟩, (unhide HE).mono (fun _ _ f => f.elim)⟩

end Go.Proofs.YthbmmbgkchiajaaGreat
