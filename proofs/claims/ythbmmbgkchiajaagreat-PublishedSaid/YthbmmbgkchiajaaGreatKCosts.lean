
/- What each node has spent is looked at. -/
import Derived.Test.YthbmmbgkchiajaaGreatKWorks

namespace Go.Proofs.YthbmmbgkchiajaaGreat
set_option linter.unusedSimpArgs false
set_option linter.unusedVariables false
open Go.RowKit

def remI (x y : Value) : Sem Value := binOp .rem 3 x y
theorem remI_eq (x y : Value) : binOp .rem 3 x y = remI x y := rfl
def neC (x y : Value) : Sem Value := binOp .neq 105 x y
theorem neC_eq (x y : Value) : binOp .neq 105 x y = neC x y := rfl

theorem run_shrI1 (W : World) (s i : Nat) (hi : i < 4) : (shrI (.int .i64 (s : Int)) (.int .i64 (i : Int))).run Tryz.prog W = .ok (.int .i64 ((s / 2 ^ i : Nat) : Int)) W := by
  have e : min (i : Int).toNat IntKind.i64.bits = i := by
    show min _ 64 = _
    omega
  unfold shrI binOp Op.shift
  simp only
  rw [if_neg (by omega), e]
  show (pure (Value.int .i64 ((s : Int).fdiv (2 ^ i))) : Sem Value).run _ _ = _
  have e2 : (s : Int).fdiv (2 ^ i) = ((s / 2 ^ i : Nat) : Int) := by
    have e3 : (2 : Int) ^ i = ((2 ^ i : Nat) : Int) := by rw [Int.natCast_pow]; rfl
    rw [e3, Int.fdiv_eq_ediv_of_nonneg _ (Int.natCast_nonneg _)]; rfl
  rw [e2]; rfl
theorem run_remI (W : World) (x : Nat) : (remI (.int .i64 (x : Int)) (.int .i64 2)).run Tryz.prog W = .ok (.int .i64 ((x % 2 : Nat) : Int)) W := by
  have e : (x : Int).tmod 2 = ((x % 2 : Nat) : Int) := by
    rw [Int.tmod_eq_emod_of_nonneg (by omega)]; omega
  unfold remI
  simp [go_sem, e]
theorem run_neC (W : World) (a b c : Int) : (neC (.agg #[.int .i64 a, .int .i64 b, .int .i64 c]) (.agg #[.int .i64 a, .int .i64 b, .int .i64 c])).run Tryz.prog W = .ok (.bool false) W := by
  have e : ∀ x y, neC (.agg x) (.agg y) = (fun b => Value.bool (! b)) <$> Op.equal 105 (.agg x) (.agg y) := fun _ _ => rfl
  have h : (Op.equal 105 (.agg #[.int .i64 a, .int .i64 b, .int .i64 c]) (.agg #[.int .i64 a, .int .i64 b, .int .i64 c])).run Tryz.prog W = .ok true W := by
    unfold Op.equal
    obtain ⟨d, hd⟩ : ∃ d, Op.maxDepth = d + 2 := ⟨9998, rfl⟩
    rw [hd]
    unfold Op.equalIn
    simp [go_sem, Tryz.underlying105, part]
  rw [e]
  simp [h]

end Go.Proofs.YthbmmbgkchiajaaGreat

/- A case's cluster. -/
namespace Go.Proofs.YthbmmbgkchiajaaGreat
set_option linter.unusedSimpArgs false
set_option linter.unusedVariables false
open Go.RowKit

theorem StartOut.still {cfg : Cfg} {w w0 w1 w2 : World} {pk : Nat} (h : StartOut cfg w pk w1) (hw : Keeps (fun _ => False) w0 w) (hk : Keeps (fun _ => False) w1 w2) : StartOut cfg w0 pk w2 := by
  obtain ⟨c, K, ⟨vr, vn, vt, g⟩, h1, h2, h3, h4, h5⟩ := h
  have := hw.size
  exact ⟨c, K, ⟨vr, vn, vt, g.keep hk (fun _ _ => rfl) (fun _ _ _ f => f)⟩, h1, h2, h3, fun k hk' => h4 k (by omega), (hw.trans h5 (fun _ _ f => f)).trans hk (fun _ _ f => f)⟩

set_option maxRecDepth 100000 in
set_option maxHeartbeats 1000000 in
theorem copen_ok (cfg : Cfg) (sv : Value) (w : World) (hc : CfgOk cfg) (h24 : 24 ≤ cfg.ring * cfg.per) (hsv : sv = .slice none 0 0) :
    Calls Tryz.prog 16 #[.agg #[.int .i64 (cfg.nodes : Int), .int .i64 (cfg.variant : Int), .int .i64 (cfg.ring : Int), .int .i64 (cfg.per : Int), .int .i64 (cfg.patience : Int), sv]] w fun e w' => ∃ pk, e = .returned (.tuple #[.pointer (some ⟨pk, 0, none⟩), .bool true]) ∧ StartOut cfg w pk w' := by
  subst hsv
  obtain ⟨W, hW, hkW, hA⟩ : ∃ W, w.alloc (.cells #[.int .i64 (cfg.nodes : Int), .int .i64 (cfg.variant : Int), .int .i64 (cfg.ring : Int), .int .i64 (cfg.per : Int), .int .i64 (cfg.patience : Int), .slice none 0 0] 32) = W ∧ Keeps (fun _ => False) w W ∧ W.heap[w.heap.size]? = some (.cells #[.int .i64 (cfg.nodes : Int), .int .i64 (cfg.variant : Int), .int .i64 (cfg.ring : Int), .int .i64 (cfg.per : Int), .int .i64 (cfg.patience : Int), .slice none 0 0] 32 (0, 0)) := ⟨_, rfl, (Keeps.refl _ w).alloc _, heap_alloc_new _ _⟩
  have hst := start_ok cfg W hc h24
  have HR : Hid (∀ W, Calls Tryz.prog 43 #[cfgv (cfg.nodes : Int) (cfg.variant : Int) (cfg.ring : Int) (cfg.per : Int) (cfg.patience : Int)] W fun e w' => e = .returned (.bool true) ∧ Keeps (fun _ => False) W w') := hide (fun W => by
    have := kRight_any (cfg.nodes : Int) (cfg.variant : Int) (cfg.ring : Int) (cfg.per : Int) (cfg.patience : Int) W
    rw [chk_ok hc h24] at this
    exact this)
  have HW : Hid (∀ W, Calls Tryz.prog 44 #[cfgV cfg] W fun e w' => e = .returned (.bool true) ∧ Keeps (fun _ => False) W w') := hide (fun W => works_ok cfg W hc h24)
  clear hc h24
  have a0 := cell_of_heap (o := 0) hA
  have a1 := cell_of_heap (o := 1) hA
  have a2 := cell_of_heap (o := 2) hA
  have a3 := cell_of_heap (o := 3) hA
  have a4 := cell_of_heap (o := 4) hA
  simp at a0 a1 a2 a3 a4
  unfold cfgV cfgv at *
  go_enter Tryz.func16, Tryz.ntmps16
  go_wp2_with fail
  go_at_call 42
  refine hst.mono ?_
  rintro e w1 ⟨pk, rfl, hO⟩
  have hk1 : Keeps (fun _ => False) W w1 := by obtain ⟨_, _, _, _, _, _, _, hk⟩ := hO; exact hk
  have hA1 := hk1.heap hA (fun f => f)
  have HO := hide hO
  clear hO hst a0 a1 a2 a3 a4
  have a0 := cell_of_heap (o := 0) hA1
  have a1 := cell_of_heap (o := 1) hA1
  have a2 := cell_of_heap (o := 2) hA1
  have a3 := cell_of_heap (o := 3) hA1
  have a4 := cell_of_heap (o := 4) hA1
  simp at a0 a1 a2 a3 a4
  have hr := unhide HR w1
  go_wp2_with fail
  go_at_call 43
  refine hr.mono ?_
  rintro e w2 ⟨rfl, hk2⟩
  have hA2 := hk2.heap hA1 (fun f => f)
  clear hr a0 a1 a2 a3 a4
  have a0 := cell_of_heap (o := 0) hA2
  have a1 := cell_of_heap (o := 1) hA2
  have a2 := cell_of_heap (o := 2) hA2
  have a3 := cell_of_heap (o := 3) hA2
  have a4 := cell_of_heap (o := 4) hA2
  simp at a0 a1 a2 a3 a4
  have hwk := unhide HW w2
  go_wp2_with fail
  go_at_call 44
  refine hwk.mono ?_
  rintro e w3 ⟨rfl, hk3⟩
  have HF : Hid (StartOut cfg w pk w3) := hide ((unhide HO).still hkW (hk2.trans hk3 (fun _ _ f => f)))
  clear hwk hk3 hk2 hk1
  go_wp2
  go_ret2
  exact ⟨pk, rfl, unhide HF⟩

set_option maxRecDepth 100000 in
set_option maxHeartbeats 1000000 in
theorem copen_bad (n v r p t : Int) (w : World) (h : rightC n v r p t = false) :
    Calls Tryz.prog 16 #[.agg #[.int .i64 n, .int .i64 v, .int .i64 r, .int .i64 p, .int .i64 t, .slice none 0 0]] w fun e w' => e = .returned (.tuple #[.pointer none, .bool true]) ∧ Keeps (fun _ => False) w w' := by
  obtain ⟨W, hW, hkW, hA⟩ : ∃ W, w.alloc (.cells #[.int .i64 n, .int .i64 v, .int .i64 r, .int .i64 p, .int .i64 t, .slice none 0 0] 32) = W ∧ Keeps (fun _ => False) w W ∧ W.heap[w.heap.size]? = some (.cells #[.int .i64 n, .int .i64 v, .int .i64 r, .int .i64 p, .int .i64 t, .slice none 0 0] 32 (0, 0)) := ⟨_, rfl, (Keeps.refl _ w).alloc _, heap_alloc_new _ _⟩
  have hst := start_bad n v r p t W h
  have HR : Hid (∀ W, Calls Tryz.prog 43 #[cfgv n v r p t] W fun e w' => e = .returned (.bool false) ∧ Keeps (fun _ => False) W w') := hide (fun W => by
    have := kRight_any n v r p t W
    have hc1 : chk n v r p t = 1 := by unfold chk; simp [h]
    rw [hc1] at this
    exact this)
  clear h
  have a0 := cell_of_heap (o := 0) hA
  have a1 := cell_of_heap (o := 1) hA
  have a2 := cell_of_heap (o := 2) hA
  have a3 := cell_of_heap (o := 3) hA
  have a4 := cell_of_heap (o := 4) hA
  simp at a0 a1 a2 a3 a4
  unfold cfgv at *
  go_enter Tryz.func16, Tryz.ntmps16
  go_wp2_with fail
  go_at_call 42
  refine hst.mono ?_
  rintro e w1 ⟨rfl, hk1⟩
  have hA1 := hk1.heap hA (fun f => f)
  clear hst a0 a1 a2 a3 a4
  have a0 := cell_of_heap (o := 0) hA1
  have a1 := cell_of_heap (o := 1) hA1
  have a2 := cell_of_heap (o := 2) hA1
  have a3 := cell_of_heap (o := 3) hA1
  have a4 := cell_of_heap (o := 4) hA1
  simp at a0 a1 a2 a3 a4
  have hr := unhide HR w1
  go_wp2_with fail
  go_at_call 43
  refine hr.mono ?_
  rintro e w2 ⟨rfl, hk2⟩
  have HF : Hid (Keeps (fun _ => False) w w2) := hide ((hkW.trans hk1 (fun _ _ f => f)).trans hk2 (fun _ _ f => f))
  clear hr hk2 hk1
  go_wp2
  go_ret2
  exact ⟨rfl, unhide HF⟩

end Go.Proofs.YthbmmbgkchiajaaGreat
