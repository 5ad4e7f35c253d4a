
/- A fresh cluster of a right configuration works. -/
import Derived.Test.YthbmmbgkchiajaaGreatKRun
namespace Go.Proofs.YthbmmbgkchiajaaGreat
set_option linter.unusedSimpArgs false
set_option linter.unusedVariables false
open Go.RowKit

theorem partsOf' : ∀ n : Fin 5, ∀ s : Fin 16, s.val < 2 ^ n.val → (∀ i ∈ members s.val, i < n.val) ∧ (bits s.val n.val).length = (members s.val).length ∧ ofList n.val ((bits s.val n.val).map (fun (i : Nat) => (i : Int))) 0 = some s.val := by decide +kernel
theorem partsOf {n s : Nat} (h4 : n ≤ 4) (hs : s < 2 ^ n) : s < 16 ∧ (∀ i ∈ members s, i < n) ∧ (bits s n).length = (members s).length ∧ ofList n ((bits s n).map (fun (i : Nat) => (i : Int))) 0 = some s := by
  have h16 : s < 16 := Nat.lt_of_lt_of_le hs (Nat.pow_le_pow_right (n := 2) (by omega) h4)
  exact ⟨h16, partsOf' ⟨n, by omega⟩ ⟨s, h16⟩ hs⟩
theorem allOf' : ∀ n : Fin 5, 1 ≤ n.val → 2 ^ n.val - 1 ≠ 0 ∧ (members (2 ^ n.val - 1)).length = n.val ∧ ∀ j : Fin 5, j.val < n.val → (2 ^ n.val - 1).testBit j.val = true := by decide +kernel
theorem allOf {n : Nat} (h1 : 1 ≤ n) (h4 : n ≤ 4) : 2 ^ n - 1 < 2 ^ n ∧ 2 ^ n - 1 ≠ 0 ∧ (members (2 ^ n - 1)).length = n ∧ ∀ j, j < n → (2 ^ n - 1).testBit j = true := by
  have h := allOf' ⟨n, by omega⟩ h1
  have : 0 < 2 ^ n := Nat.pow_pos (by omega)
  exact ⟨by omega, h.1, h.2.1, fun j hj => h.2.2 ⟨j, by omega⟩ hj⟩

theorem BitsRel.ints {w wr : World} {s j : Nat} {v : Value} (h : BitsRel w s j v wr) (hj : j ≤ 4) : IntsAt wr v ((bits s j).map (fun (i : Nat) => (i : Int))) := by
  have hl := bits_len s j
  rcases h.1.2 with ⟨h1, h2⟩ | ⟨g, c', cur, h1, _⟩
  · exact .inl ⟨h1, by rw [List.map_eq_nil_iff]; exact List.length_eq_zero_iff.1 h2⟩
  · refine .inr ⟨g, 0, c', by rw [List.length_map]; exact h1, by rw [List.length_map]; omega, fun k x hx => ?_⟩
    rw [Nat.zero_add]
    have hr := h.1
    rw [h1] at hr
    refine row_cell hr ?_
    rw [List.getElem?_map] at hx ⊢
    cases hb : (bits s j)[k]? with
    | none => rw [hb] at hx; cases hx
    | some y => rw [hb] at hx; cases hx; rfl

def neT (x y : Value) : Sem Value := binOp .neq 38 x y
theorem neT_eq (x y : Value) : binOp .neq 38 x y = neT x y := rfl
theorem run_neT (W : World) (a b : Tx) : (neT (txv a) (txv b)).run Tryz.prog W = .ok (.bool (! decide (a = b))) W := by
  have e : neT (txv a) (txv b) = (fun b => Value.bool (! b)) <$> Op.equal 38 (txv a) (txv b) := rfl
  rw [e]
  simp [run_eqTx]
theorem run_neT_first (W : World) : (neT (.agg #[.int .i64 0, .int .i64 1, .int .i64 1]) (.agg #[.int .i64 0, .int .i64 1, .int .i64 1])).run Tryz.prog W = .ok (.bool false) W := by
  have := run_neT W ⟨0, 1, 1⟩ ⟨0, 1, 1⟩
  simpa [txv] using this

set_option maxRecDepth 100000 in
set_option maxHeartbeats 400000 in
theorem start_bad (n v r p t : Int) (w : World) (h : rightC n v r p t = false) :
    Calls Tryz.prog 42 #[cfgv n v r p t] w fun e w' => e = .returned (.tuple #[.pointer none, .int .i64 1]) ∧ Keeps (fun _ => False) w w' := by
  obtain ⟨W, hW, hkW, hA⟩ : ∃ W, w.alloc (.cells #[.int .i64 n, .int .i64 v, .int .i64 r, .int .i64 p, .int .i64 t] 29) = W ∧ Keeps (fun _ => False) w W ∧ W.heap[w.heap.size]? = some (.cells #[.int .i64 n, .int .i64 v, .int .i64 r, .int .i64 p, .int .i64 t] 29 (0, 0)) := ⟨_, rfl, (Keeps.refl _ w).alloc _, heap_alloc_new _ _⟩
  have hck := pCheck_any n v r p t W
  have hc1 : chk n v r p t = 1 := by unfold chk; simp [h]
  rw [hc1] at hck
  have a0 := cell_of_heap (o := 0) hA
  have a1 := cell_of_heap (o := 1) hA
  have a2 := cell_of_heap (o := 2) hA
  have a3 := cell_of_heap (o := 3) hA
  have a4 := cell_of_heap (o := 4) hA
  simp at a0 a1 a2 a3 a4
  clear hA h hc1
  unfold cfgv at *
  go_enter Tryz.func42, Tryz.ntmps42
  go_wp2_with fail
  go_at_call 77
  refine hck.mono ?_
  rintro e w1 ⟨rfl, hk1⟩
  have HK := hide (hkW.trans hk1 (fun _ _ f => f))
  clear hk1 hck
  go_wp2
  go_ret2
  exact ⟨rfl, unhide HK⟩

attribute [local go_sem ↓] inApp_eq neT_eq

set_option maxRecDepth 100000 in
set_option maxHeartbeats 1000000 in
theorem works_ok (cfg : Cfg) (w : World) (hc : CfgOk cfg) (h24 : 24 ≤ cfg.ring * cfg.per) :
    Calls Tryz.prog 44 #[cfgV cfg] w fun e w' => e = .returned (.bool true) ∧ Keeps (fun _ => False) w w' := by
  have h4 := hc.nodes
  obtain ⟨s, hs⟩ : ∃ s, s = 2 ^ cfg.nodes - 1 := ⟨_, rfl⟩
  have hF := allOf h4.1 h4.2
  rw [← hs] at hF
  obtain ⟨hlt, hne, hml, hbit⟩ := hF
  obtain ⟨h16, hpl, hbl, hofl⟩ := partsOf h4.2 hlt
  have ho : POk cfg 0 s := ⟨hc, h24, by omega, hpl, h16, hne⟩
  have HST : Hid (∀ W, Calls Tryz.prog 42 #[cfgV cfg] W fun e w' => ∃ pk, e = .returned (.tuple #[.pointer (some ⟨pk, 0, none⟩), .int .i64 0]) ∧ StartOut cfg W pk w') := hide (fun W => start_ok cfg W hc h24)
  have HB : Hid (∀ j, j < cfg.nodes → s.testBit j = true) := hide hbit
  clear hc h24 hs hlt hne h16 hpl hbit
  obtain ⟨W, hW, hkW, hA⟩ : ∃ W, w.alloc (.cells #[.int .i64 (cfg.nodes : Int), .int .i64 (cfg.variant : Int), .int .i64 (cfg.ring : Int), .int .i64 (cfg.per : Int), .int .i64 (cfg.patience : Int)] 29) = W ∧ Keeps (fun _ => False) w W ∧ W.heap[w.heap.size]? = some (.cells #[.int .i64 (cfg.nodes : Int), .int .i64 (cfg.variant : Int), .int .i64 (cfg.ring : Int), .int .i64 (cfg.per : Int), .int .i64 (cfg.patience : Int)] 29 (0, 0)) := ⟨_, rfl, (Keeps.refl _ w).alloc _, heap_alloc_new _ _⟩
  have a0 := cell_of_heap (o := 0) hA
  have a1 := cell_of_heap (o := 1) hA
  have a2 := cell_of_heap (o := 2) hA
  have a3 := cell_of_heap (o := 3) hA
  have a4 := cell_of_heap (o := 4) hA
  simp at a0 a1 a2 a3 a4
  have hwl := lt_of_heap hA
  have hst := unhide HST W
  unfold cfgV at *
  go_enter Tryz.func44, Tryz.ntmps44
  go_wp2_with fail
  go_at_call 42
  refine hst.mono ?_
  rintro e w1 ⟨pk, rfl, T, K, hK, hSt, hnet, htr, hTo, hk1⟩
  have hA1 := hk1.heap hA (fun f => f)
  have hsz1 := hk1.size
  have HK : Hid (KAt T w1 pk K 1 ∧ Started cfg cfg.nodes K.ns ∧ K.net = [] ∧ K.trace = [] ∧ (∀ k, k < W.heap.size → T k = .other)) := hide ⟨hK, hSt, hnet, htr, hTo⟩
  have HR0 : Hid (BitsRel w1 s 0 (.slice none 0 0) w1) := hide ⟨World.ownsRow_nil _ _ _ _, Keeps.refl _ _, fun k e => by simp [Value.ownBlock] at e⟩
  clear hK hSt hnet htr hTo hst a0 a1 a2 a3 a4
  go_wp2
  go_loopw [5, 6] (fun v i wr => ∃ j : Nat, j ≤ cfg.nodes ∧ i = .int .i64 (j : Int) ∧ Hid (BitsRel w1 s j v wr)) (fun _ i _ => cfg.nodes - (intOf i).toNat)
  case atStart => exact ⟨0, by omega, rfl, HR0⟩
  case round =>
    obtain ⟨j, hj, rfl, HR⟩ := hrel
    have hR := unhide HR
    have hAr := hR.2.1.heap hA1 (fun f => f)
    have b0 := cell_of_heap (o := 0) hAr
    simp at b0
    have hszr := hR.2.1.size
    by_cases hlt : j < cfg.nodes
    · have hlt' : (j : Int) < (cfg.nodes : Int) := by omega
      have hbl := bits_len s j
      obtain ⟨g, cap, W', hr, HQ⟩ := run_appI wr u5 (icell j) _ _ rfl hR.1 (by omega)
      have HS := hide (hR.step (unhide HB j hlt) (unhide HQ).1 (unhide HQ).2.1 (unhide HQ).2.2.1)
      rw [show icell j = .int .i64 (j : Int) from rfl] at hr
      clear hR hAr
      go_wp2_with fail
      go_roundw
      case rel => exact ⟨j + 1, by omega, by go_num, HS⟩
      case measure => simp [intOf]; omega
    · obtain rfl : j = cfg.nodes := by omega
      obtain ⟨hK, hSt, hnet, htr, hTo⟩ := unhide HK
      have hK2 : KAt T wr pk K 1 := by
        obtain ⟨vr, vn, vt, g⟩ := hK
        exact ⟨vr, vn, vt, g.keep hR.2.1 (fun _ _ => rfl) (fun _ _ _ f => f)⟩
      have hbg := run_begin (c := 0) (v := u5) ho hK2 (by omega) hSt hnet htr (hR.ints h4.2) hofl
      clear hK hSt hnet htr hK2
      unfold txv pubT at hbg
      simp only [] at hbg
      go_wp2_with fail
      go_at_call 18
      refine hbg.mono ?_
      rintro e w3 ⟨rfl, hrun⟩
      have hk3 := hrun.keeps
      have hA3 := hk3.heap hAr (fun e => e (hTo _ hwl))
      have b3 := cell_of_heap (o := 0) hA3
      simp at b3
      have hKW3 : Keeps (fun k => W.heap.size ≤ k) W w3 := ((hk1.trans hR.2.1 (fun _ _ f => f)).mono (T := fun k => W.heap.size ≤ k) (fun _ _ f => f.elim)).trans hk3 (fun k hk e => by have := hTo k hk; exact absurd this e)
      have hcmp := run_neT_first
      clear hbg hk3
      go_wp2_with fail
      generalize hX : World.alloc w3 _ = w4
      have hk4 : Keeps (fun _ => False) w3 w4 := by rw [← hX]; exact (Keeps.refl _ w3).alloc _
      have hD : w4.heap[w3.heap.size]? = some (.cells #[.int .i64 0, .int .i64 1, .int .i64 1] 38 (0, 0)) := by rw [← hX]; exact heap_alloc_new _ _
      clear hX
      obtain ⟨T', e1, e2, hrun4⟩ := hrun.rebase hk4
      have hdl : Calls Tryz.prog 32 #[.pointer (some ⟨pk, 0, none⟩), .int .i64 40] w4 fun e w2 => e = .returned (.bool true) ∧ KOver cfg 0 s T' w4 pk w2 := delivers_ok 40 ho hrun4 (by omega) (by omega)
      have hA4 := hk4.heap hA3 (fun f => f)
      clear hrun hrun4
      go_at_call 32
      refine hdl.mono ?_
      rintro e w5 ⟨rfl, hov⟩
      have hk5 := hov.keeps
      have hD5 := hk5.heap hD (fun e => e (e2 _ (Nat.le_refl _)))
      have hszw : w.heap.size < wr.heap.size := by omega
      have hA5 := hk5.heap hA4 (fun e => e ((e1 _ hszw).trans (hTo _ hwl)))
      have hKW5 : Keeps (fun k => W.heap.size ≤ k) W w5 := (hKW3.trans (hk4.mono (T := fun k => W.heap.size ≤ k) (fun _ _ f => f.elim)) (fun _ _ e => e)).trans hk5 (fun k hk e => absurd ((e1 k (by omega)).trans (hTo k hk)) e)
      clear hdl hk5 hD hA4 hKW3
      have htr := run_trace ho hov
      clear hov
      go_wp2_with fail
      go_at_call 23
      refine htr.mono ?_
      rintro e w6 ⟨v, rfl, hk6, hag⟩
      have hD6 := hk6.heap hD5 (fun f => f)
      have hA6 := hk6.heap hA5 (fun f => f)
      clear htr
      have d0 := cell_of_heap (o := 0) hD6
      have d1 := cell_of_heap (o := 1) hD6
      have d2 := cell_of_heap (o := 2) hD6
      simp at d0 d1 d2
      have hag1 := (hag w6 (Keeps.refl _ _)).1
      unfold txv pubT at hag1 hag
      simp only [] at hag1 hag
      go_wp2_with fail
      go_at_call 35
      refine hag1.mono ?_
      rintro e w7 ⟨rfl, hk7⟩
      have hag2 := (hag w7 hk7).2
      have hD7 := hk7.heap hD6 (fun f => f)
      have hA7 := hk7.heap hA6 (fun f => f)
      have f0 := cell_of_heap (o := 0) hD7
      have f1 := cell_of_heap (o := 1) hD7
      have f2 := cell_of_heap (o := 2) hD7
      simp at f0 f1 f2
      clear hag hag1 d0 d1 d2
      go_wp2_with fail
      go_at_call 35
      refine hag2.mono ?_
      rintro e w8 ⟨rfl, hk8⟩
      have hA8 := hk8.heap hA7 (fun f => f)
      have c8 := cell_of_heap (o := 0) hA8
      simp at c8
      have HF : Hid (Keeps (fun _ => False) w w8) := hide (hkW.trans ((hKW5.trans (((hk6.trans hk7 (fun _ _ f => f)).trans hk8 (fun _ _ f => f)).mono (T := fun k => W.heap.size ≤ k) (fun _ _ f => f.elim)) (fun _ _ e => e)).mono (T := fun _ => False) (fun k hk e => by omega)) (fun _ _ f => f))
      clear hag2 hk7 hk8 hk6 f0 f1 f2
      rw [hml]
      go_wp2
      go_ret
      exact ⟨rfl, unhide HF⟩

end Go.Proofs.YthbmmbgkchiajaaGreat
