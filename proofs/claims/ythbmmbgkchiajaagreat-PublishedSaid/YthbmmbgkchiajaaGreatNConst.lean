
/- What a node reckons. -/
import Derived.Test.YthbmmbgkchiajaaGreatNWrite

namespace Go.Proofs.YthbmmbgkchiajaaGreat
set_option linter.unusedSimpArgs false
set_option linter.unusedVariables false
open Go.RowKit

set_option maxRecDepth 100000 in
theorem order_any (oc : Nat) (w : World) : Calls Tryz.prog 237 #[.int .i64 (oc : Int)] w fun e w' => e = .returned (.int .i64 ((order oc : Nat) : Int)) ∧ w' = w := by
  unfold order
  by_cases h : oc = 1
  · subst h
    rw [if_pos rfl]
    go_enter Tryz.func237, Tryz.ntmps237
    go_wp2
    go_ret
    exact ⟨rfl, rfl⟩
  · rw [if_neg h]
    have h1 : ((oc : Int) == 1) = false := by rw [beq_eq_false_iff_ne]; omega
    go_enter Tryz.func237, Tryz.ntmps237
    go_wp2
    go_ret
    exact ⟨rfl, rfl⟩

set_option maxRecDepth 100000 in
theorem presumed_at (p : Nat) (n : NM) (w : World) (c2 : w.cell? ⟨p, 2, none⟩ = some (.int .i64 (n.cfg.variant : Int))) : Calls Tryz.prog 238 #[.pointer (some ⟨p, 0, none⟩)] w fun e w' => e = .returned (.int .i64 ((n.presumed : Nat) : Int)) ∧ w' = w := by
  unfold NM.presumed
  generalize n.cfg.variant = v at *
  by_cases h : v = 3
  · subst h
    rw [if_pos rfl]
    go_enter Tryz.func238, Tryz.ntmps238
    go_wp2
    go_ret
    exact ⟨rfl, rfl⟩
  · rw [if_neg h]
    have h1 : ((v : Int) == 3) = false := by rw [beq_eq_false_iff_ne]; omega
    go_enter Tryz.func238, Tryz.ntmps238
    go_wp2
    go_ret
    exact ⟨rfl, rfl⟩
theorem presumed_any (o : Nat → Tag) (p B : Nat) (n : NM) (w : World) (h : NodeAt o w p n B) : Calls Tryz.prog 238 #[.pointer (some ⟨p, 0, none⟩)] w fun e w' => e = .returned (.int .i64 ((n.presumed : Nat) : Int)) ∧ w' = w := by
  obtain ⟨pd, vj, vf, bo, bp, ve, h⟩ := h
  have c2 := h.cell 2
  simp [nodeCells] at c2
  exact presumed_at p n w c2

set_option maxRecDepth 100000 in
theorem acksDue_any (o : Nat → Tag) (p B oc : Nat) (n : NM) (w : World) (h : NodeAt o w p n B) : Calls Tryz.prog 234 #[.pointer (some ⟨p, 0, none⟩), .int .i64 (oc : Int)] w fun e w' => e = .returned (.bool (n.acksDue oc)) ∧ w' = w := by
  obtain ⟨pd, vj, vf, bo, bp, ve, h⟩ := h
  have c2 := h.cell 2
  simp [nodeCells] at c2
  have hpr := presumed_at p n w c2
  clear h
  unfold NM.acksDue
  generalize n.presumed = pr at *
  generalize n.cfg.variant = v at *
  by_cases h : v = 1
  · subst h
    go_enter Tryz.func234, Tryz.ntmps234
    go_wp2
    go_ret
    exact ⟨rfl, rfl⟩
  · have h1 : ((v : Int) == 1) = false := by rw [beq_eq_false_iff_ne]; omega
    have HR : Hid ((decide (v = 1) || decide (oc ≠ pr)) = ((oc : Int) != (pr : Int))) := hide (by
      rw [decide_eq_false h, Bool.false_or]
      by_cases e : oc = pr
      · subst e; simp
      · have : (oc : Int) ≠ (pr : Int) := by omega
        simp [e, this])
    rw [unhide HR]
    go_enter Tryz.func234, Tryz.ntmps234
    go_wp2_with (go_at_call 238; refine hpr.mono ?_; rintro e w1 ⟨rfl, rfl⟩)
    go_ret
    exact ⟨rfl, rfl⟩

end Go.Proofs.YthbmmbgkchiajaaGreat

/- The room of a journal, and what is needed of it. -/
namespace Go.Proofs.YthbmmbgkchiajaaGreat
set_option linter.unusedSimpArgs false
set_option linter.unusedVariables false
open Go.RowKit

def quoN (x y : Value) : Sem Value := binOp .quo 3 x y
theorem quoN_eq (x y : Value) : binOp .quo 3 x y = quoN x y := rfl
theorem run_quoN (W : World) (a b : Nat) (ha : a ≤ 9223372036854775807) (hb : 2 ≤ b) : (quoN (.int .i64 ((a : Int) - 1)) (.int .i64 (b : Int))).run Tryz.prog W = .ok (.int .i64 (((a - 1) / b : Nat) : Int)) W := by
  unfold quoN
  have hb0 : (b : Int) ≠ 0 := by omega
  simp only [binOp_quo, Op.intDiv]
  rw [if_neg hb0]
  have e : ((a : Int) - 1).tdiv (b : Int) = (((a - 1) / b : Nat) : Int) := by
    cases a with
    | zero =>
      show (-1 : Int).tdiv (b : Int) = _
      have h1 : (0 - 1) / b = 0 := by simp
      rw [h1, show (-1 : Int) = -(1 : Int) from rfl, Int.neg_tdiv]
      have : (1 : Int).tdiv (b : Int) = ((1 / b : Nat) : Int) := rfl
      rw [this, Nat.div_eq_of_lt (by omega)]; rfl
    | succ a =>
      have : ((a + 1 : Nat) : Int) - 1 = (a : Int) := by omega
      rw [this]; rfl
  have hle : (a - 1) / b ≤ a := Nat.le_trans (Nat.div_le_self _ _) (by omega)
  rw [e]
  generalize (a - 1) / b = z at *
  rw [IntWalk.i64_in _ ⟨by omega, by omega⟩]
  rfl
attribute [local go_sem ↓] quoN_eq mulI_eq

set_option maxRecDepth 100000 in
theorem segment_at (p x : Nat) (n : NM) (w : World) (c4 : w.cell? ⟨p, 4, none⟩ = some (.int .i64 (n.cfg.per : Int))) (hx : x ≤ 4611686018427387904) (hp : 2 ≤ n.cfg.per) : Calls Tryz.prog 151 #[.pointer (some ⟨p, 0, none⟩), .int .i64 (x : Int)] w fun e w' => e = .returned (.int .i64 ((n.seg x : Nat) : Int)) ∧ w' = w := by
  unfold NM.seg
  generalize n.cfg.per = per at *
  have hq := fun W => run_quoN W x per (by omega) hp
  generalize (x - 1) / per = y at *
  go_enter Tryz.func151, Tryz.ntmps151
  go_wp2
  go_ret
  exact ⟨rfl, rfl⟩

theorem JUse.room {S : Nat → Prop} {w : World} {pj pd : Nat} {n : NM} {m : DM} (h : JUse S w pj pd n.jm m) : n.seg n.low * n.cfg.per ≤ n.recs.length ∧ n.recs.length ≤ n.seg n.low * n.cfg.per + n.cfg.ring * n.cfg.per ∧ n.cfg.ring * n.cfg.per ≤ 96 ∧ 2 ≤ n.cfg.per ∧ 1 ≤ n.low ∧ n.low ≤ n.recs.length + 1 := by
  have h1 := h.2.1.ok.win
  have h2 := h.2.1.ok.low
  rw [NM.jm_len] at h1 h2
  have h3 := Nat.div_mul_le_self (n.low - 1) n.cfg.per
  have h4 := h.2.1.ok.pos.2
  have h2' : 1 ≤ n.low ∧ n.low ≤ n.recs.length + 1 := h2
  exact ⟨by unfold NM.seg; omega, h1, h4, h.2.1.ok.per.1, h2'.1, h2'.2⟩

theorem jLow_use {S : Nat → Prop} {w : World} {pj pd : Nat} {n : NM} {m : DM} (h : JUse S w pj pd n.jm m) : Calls Tryz.prog 152 #[.pointer (some ⟨pj, 0, none⟩)] w fun e w' => e = .returned (.int .i64 (n.low : Int)) ∧ w' = w := by
  obtain ⟨vn, hj⟩ := h.at
  exact jLow_any pj _ w (by have := cell_of_heap (o := 3) hj; simpa [NM.jm] using this)
theorem jNext_use {S : Nat → Prop} {w : World} {pj pd : Nat} {n : NM} {m : DM} (h : JUse S w pj pd n.jm m) : Calls Tryz.prog 153 #[.pointer (some ⟨pj, 0, none⟩)] w fun e w' => e = .returned (.int .i64 ((n.recs.length + 1 : Nat) : Int)) ∧ w' = w := by
  obtain ⟨vn, hj⟩ := h.at
  rw [NM.jm_len] at hj
  exact jNext_any pj _ w (by have := cell_of_heap (o := 4) hj; simpa using this)

/-- Calls that only read hold in every world that is as this one. -/
theorem NodeAt.drew {o : Nat → Tag} {w : World} {p : Nat} {n : NM} {B : Nat} (h : NodeAt o w p n B) : NodeAt o w.drew p n B := h.keep ((Keeps.refl (fun _ => False) w).drew) (fun _ _ => rfl) (fun _ _ _ f => f)
theorem NG.drew {o : Nat → Tag} {w : World} {p : Nat} {n : NM} {B pd : Nat} {vj vf : Value} {bo bp : Nat} {ve : Value} (h : NG o w p n B pd vj vf bo bp ve) : NG o w.drew p n B pd vj vf bo bp ve := h.keep ((Keeps.refl (fun _ => False) w).drew) (fun _ _ => rfl) (fun _ _ _ f => f)

set_option maxRecDepth 100000 in
set_option maxHeartbeats 400000 in
theorem room_any (o : Nat → Tag) (p B : Nat) (n : NM) (w : World) (h : NodeAt o w p n B) (hup : n.up = true) : Calls Tryz.prog 87 #[.pointer (some ⟨p, 0, none⟩)] w fun e w' => e = .returned (.int .i64 ((n.room : Nat) : Int)) ∧ Keeps (fun _ => False) w w' := by
  obtain ⟨pd, vj, vf, bo, bp, ve, h⟩ := h
  obtain ⟨pj, dm, rfl, hJ, hdm⟩ := h.jour' hup
  have c12 := h.cell 12
  have c4 := h.cell 4
  have c3 := h.cell 3
  simp [nodeCells] at c12 c3 c4
  have hsm := h.small.recs
  have hbig := h.small.big
  obtain ⟨r1, r2, r3, r4, r5, r6⟩ := JUse.room hJ
  have hlow := fun W (hk : Keeps (fun _ => False) w W) => jLow_use (hJ.keep hk (fun _ _ _ f => f))
  have hnext := fun W (hk : Keeps (fun _ => False) w W) => jNext_use (hJ.keep hk (fun _ _ _ f => f))
  have hseg := fun W (hk : Keeps (fun _ => False) w W) => segment_at p n.low n W (hk.cell' c4 (fun f => f)) (by omega) r4
  have m1 := fun W => run_mulI W (n.seg n.low) n.cfg.per (by omega)
  have m2 := fun W => run_mulI W n.cfg.ring n.cfg.per (by omega)
  have hw1 : IntKind.i64.wrap (((n.seg n.low * n.cfg.per : Nat) : Int) + 1) = ((n.seg n.low * n.cfg.per + 1 : Nat) : Int) := by rw [IntWalk.i64_in _ ⟨by omega, by omega⟩]; omega
  have hw2 : IntKind.i64.wrap (((n.recs.length + 1 : Nat) : Int) - ((n.seg n.low * n.cfg.per + 1 : Nat) : Int)) = ((n.recs.length - n.seg n.low * n.cfg.per : Nat) : Int) := by rw [IntWalk.i64_in _ ⟨by omega, by omega⟩]; omega
  have hw3 : IntKind.i64.wrap (((n.cfg.ring * n.cfg.per : Nat) : Int) - ((n.recs.length - n.seg n.low * n.cfg.per : Nat) : Int)) = ((n.room : Nat) : Int) := by unfold NM.room; rw [IntWalk.i64_in _ ⟨by omega, by omega⟩]; omega
  clear r1 r2 r3 r5 r6 hsm
  generalize n.room = rm at *
  generalize n.recs.length - n.seg n.low * n.cfg.per = df at *
  generalize n.seg n.low * n.cfg.per + 1 = sp1 at *
  generalize n.seg n.low * n.cfg.per = sp at *
  generalize n.cfg.ring * n.cfg.per = rp at *
  generalize n.recs.length + 1 = nx at *
  clear h hJ
  go_enter Tryz.func87, Tryz.ntmps87
  go_wp2_with fail
  go_region_held3 (fun w' => w'.cell? ⟨p, 12, none⟩ = some (.pointer (some ⟨pj, 0, none⟩)) ∧ w'.cell? ⟨p, 4, none⟩ = some (.int .i64 (n.cfg.per : Int))) (first | exact ⟨c12, c4⟩) (first
    | (go_at_call 152; refine (hlow _ ((Keeps.refl _ _).drew)).mono ?_; rintro e w1 ⟨rfl, rfl⟩)
    | (go_at_call 151; refine (hseg _ ((Keeps.refl _ _).drew)).mono ?_; rintro e w2 ⟨rfl, rfl⟩))
  go_wp2_with fail
  go_region_held3 (fun w' => w'.cell? ⟨p, 12, none⟩ = some (.pointer (some ⟨pj, 0, none⟩)) ∧ w'.cell? ⟨p, 4, none⟩ = some (.int .i64 (n.cfg.per : Int)) ∧ w'.cell? ⟨p, 3, none⟩ = some (.int .i64 (n.cfg.ring : Int))) (first | exact ⟨c12, c4, c3⟩) (first
    | (go_at_call 153; refine (hnext _ (((Keeps.refl _ _).drew).drew)).mono ?_; rintro e w1 ⟨rfl, rfl⟩))
  go_wp2
  go_ret
  exact ⟨rfl, ((Keeps.refl _ _).drew).drew⟩

theorem openL_length (l : List (Tx × Deal)) : (openL l).length = l.length := by simp [openL]
theorem prepL_length (l : List (Tx × Nat)) : (prepL l).length = l.length := by simp [prepL]

/-- len of a table, by a name of its own. -/
def lenO (args : Array Value) : Sem Value := Builtin.len_ #[149] 3 args
theorem lenO_eq (args : Array Value) : Builtin.len_ #[149] 3 args = lenO args := rfl
def lenP (args : Array Value) : Sem Value := Builtin.len_ #[150] 3 args
theorem lenP_eq (args : Array Value) : Builtin.len_ #[150] 3 args = lenP args := rfl
theorem run_lenO {o : Nat → Tag} {w : World} {bo : Nat} {l : List (Tx × Deal)} (h : OpensAt o w bo l) : (lenO #[.map (some bo)]).run Tryz.prog w = .ok (.int .i64 (l.length : Int)) w := by
  have := len_map h.map 149 _ 3 Tryz.underlying149
  rw [openL_length] at this
  exact this
theorem run_lenP {o : Nat → Tag} {w : World} {bp : Nat} {l : List (Tx × Nat)} (h : PrepsAt o w bp l) : (lenP #[.map (some bp)]).run Tryz.prog w = .ok (.int .i64 (l.length : Int)) w := by
  have := len_map h.map 150 _ 3 Tryz.underlying150
  rw [prepL_length] at this
  exact this
attribute [local go_sem ↓] lenO_eq lenP_eq

set_option maxRecDepth 100000 in
set_option maxHeartbeats 400000 in
theorem need_any (o : Nat → Tag) (p B : Nat) (n : NM) (w : World) (h : NodeAt o w p n B) : Calls Tryz.prog 88 #[.pointer (some ⟨p, 0, none⟩)] w fun e w' => e = .returned (.int .i64 ((n.need : Nat) : Int)) ∧ Keeps (fun _ => False) w w' := by
  obtain ⟨pd, vj, vf, bo, bp, ve, h⟩ := h
  have c15 := h.cell 15
  have c16 := h.cell 16
  simp [nodeCells] at c15 c16
  have l1 := run_lenO h.opens
  have l2 := run_lenP h.preps
  have l1d := run_lenO h.drew.opens
  have l2d := run_lenP h.drew.preps
  have h5 := h.small.opensL
  have h6 := h.small.prepsL
  have h7 := h.small.big
  have m3 : ∀ W, (mulI (.int .i64 3) (.int .i64 (n.opn.length : Int))).run Tryz.prog W = .ok (.int .i64 ((3 * n.opn.length : Nat) : Int)) W := fun W => run_mulI W 3 n.opn.length (by omega)
  have m2 : ∀ W, (mulI (.int .i64 2) (.int .i64 (n.prep.length : Int))).run Tryz.prog W = .ok (.int .i64 ((2 * n.prep.length : Nat) : Int)) W := fun W => run_mulI W 2 n.prep.length (by omega)
  have hw : IntKind.i64.wrap (((3 * n.opn.length : Nat) : Int) + ((2 * n.prep.length : Nat) : Int)) = ((n.need : Nat) : Int) := by unfold NM.need; rw [IntWalk.i64_in _ ⟨by omega, by omega⟩]; omega
  clear h
  generalize n.need = nd at *
  generalize 3 * n.opn.length = a3 at *
  generalize 2 * n.prep.length = a2 at *
  generalize n.opn.length = lo at *
  generalize n.prep.length = lp at *
  go_enter Tryz.func88, Tryz.ntmps88
  go_wp2_with fail
  go_region_held3 (fun w' => w'.cell? ⟨p, 15, none⟩ = some (.map (some bo)) ∧ w'.cell? ⟨p, 16, none⟩ = some (.map (some bp)) ∧ (lenO #[.map (some bo)]).run Tryz.prog w' = .ok (.int .i64 (lo : Int)) w' ∧ (lenP #[.map (some bp)]).run Tryz.prog w' = .ok (.int .i64 (lp : Int)) w') (first | exact ⟨c15, c16, l1, l2⟩ | exact ⟨c15, c16, l1d, l2d⟩) (fail)
  go_wp2
  go_ret
  exact ⟨rfl, (Keeps.refl _ _).drew⟩

theorem bool_or3 {a b c : Bool} : (a || (b || c)) = (a || b || c) := by cases a <;> cases b <;> rfl

set_option maxRecDepth 100000 in
set_option maxHeartbeats 400000 in
theorem full_any (o : Nat → Tag) (p B : Nat) (n : NM) (w : World) (h : NodeAt o w p n B) (hup : n.up = true) : Calls Tryz.prog 47 #[.pointer (some ⟨p, 0, none⟩)] w fun e w' => e = .returned (.bool n.isFull) ∧ Keeps (fun _ => False) w w' := by
  have hroom := fun W (hk : Keeps (fun _ => False) w W) => room_any o p B n W (h.keep hk (fun _ _ => rfl) (fun _ _ _ f => f)) hup
  have hneed := fun W (hk : Keeps (fun _ => False) w W) => need_any o p B n W (h.keep hk (fun _ _ => rfl) (fun _ _ _ f => f))
  obtain ⟨pd, vj, vf, bo, bp, ve, h⟩ := h
  have hnd : n.need ≤ 5497558138880 := by unfold NM.need; have h5 := h.small.opensL; have h6 := h.small.prepsL; have h7 := h.small.big; omega
  have c15 := h.cell 15
  have c14 := h.cell 14
  simp [nodeCells] at c15 c14
  have l1 := run_lenO h.opens
  unfold NM.isFull
  clear h
  generalize n.room = rm at *
  generalize n.need = nd at *
  generalize n.begun = bg at *
  generalize n.opn.length = lo at *
  by_cases h1 : 4 ≤ lo
  · have h1' : (4 : Int) ≤ (lo : Int) := by omega
    rw [decide_eq_true h1, Bool.true_or]
    go_enter Tryz.func47, Tryz.ntmps47
    go_wp2
    go_ret
    exact ⟨rfl, Keeps.refl _ _⟩
  · have h1' : ¬ (4 : Int) ≤ (lo : Int) := by omega
    rw [decide_eq_false h1, Bool.false_or]
    by_cases h2 : rm < nd + 3
    · have h2' : (rm : Int) < (nd : Int) + 3 := by omega
      rw [decide_eq_true h2, Bool.true_or]
      go_enter Tryz.func47, Tryz.ntmps47
      go_wp2_with (first | (go_at_call 87; refine (hroom _ (Keeps.refl _ _)).mono ?_; rintro e w1 ⟨rfl, hk1⟩) | (go_at_call 88; refine (hneed _ hk1).mono ?_; rintro e w2 ⟨rfl, hk2⟩))
      go_ret
      exact ⟨rfl, hk1.trans hk2 (fun _ _ f => f)⟩
    · have h2' : ¬ (rm : Int) < (nd : Int) + 3 := by omega
      rw [decide_eq_false h2, Bool.false_or]
      have HB : Hid ((decide ((rm : Int) < (nd : Int) + 3) || decide ((1073741824 : Int) ≤ (bg : Int))) = decide (1073741824 ≤ bg)) := hide (by rw [decide_eq_false h2', Bool.false_or, decide_eq_decide]; omega)
      go_enter Tryz.func47, Tryz.ntmps47
      go_wp2_with (first | (go_at_call 87; refine (hroom _ (Keeps.refl _ _)).mono ?_; rintro e w1 ⟨rfl, hk1⟩) | (go_at_call 88; refine (hneed _ hk1).mono ?_; rintro e w2 ⟨rfl, hk2⟩; have c14' := hk2.cell' (hk1.cell' c14 (fun f => f)) (fun f => f)))
      go_ret
      refine ⟨?_, hk1.trans hk2 (fun _ _ f => f)⟩
      first | rfl | exact congrArg (fun b => Ending.returned (Value.bool b)) (unhide HB)

end Go.Proofs.YthbmmbgkchiajaaGreat
