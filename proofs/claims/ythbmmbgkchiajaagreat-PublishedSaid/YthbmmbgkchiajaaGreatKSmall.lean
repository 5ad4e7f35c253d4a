
/- Small functions of the law: which of n things; is a configuration right. -/
import Derived.Test.YthbmmbgkchiajaaGreatKStart
import Derived.Test.YthbmmbgkchiajaaGreatCCheckR

namespace Go.Proofs.YthbmmbgkchiajaaGreat
set_option linter.unusedSimpArgs false
set_option linter.unusedVariables false
open Go.RowKit

set_option maxHeartbeats 400000 in
theorem kpick_any (c : Int) (n : Nat) (w : World) (h0 : -9223372036854775808 ≤ c) (h1 : c ≤ 9223372036854775807) (hn : 0 < n) (hn' : n ≤ 9223372036854775807) :
    Calls Tryz.prog 17 #[.int .i64 c, .int .i64 n] w fun e w' => e = .returned (.int .i64 (pickOf c n)) ∧ w' = w := by
  have hn0 : (1 : Int) ≤ (n : Int) := by omega
  by_cases hc : c < 0
  · have hp : ((pickOf c n : Nat) : Int) = (-(c + 1)) % (n : Int) := by
      unfold pickOf; rw [if_pos hc, Int.toNat_of_nonneg (Int.emod_nonneg _ (by omega))]
    have HP : Hid (((pickOf c n : Nat) : Int) = (-(c + 1)) % (n : Int)) := hp
    clear hp
    go_enter Tryz.func17, Tryz.ntmps17
    go_wp2
    go_ret
    exact ⟨ret_int (by rw [HP.out, ← Int.neg_tmod, Int.tmod_eq_emod_of_nonneg (by omega)]), rfl⟩
  · have hp : ((pickOf c n : Nat) : Int) = c % (n : Int) := by
      unfold pickOf; rw [if_neg hc, Int.toNat_of_nonneg (Int.emod_nonneg _ (by omega))]
    have HP : Hid (((pickOf c n : Nat) : Int) = c % (n : Int)) := hp
    clear hp
    go_enter Tryz.func17, Tryz.ntmps17
    go_wp2
    go_ret
    exact ⟨ret_int HP.out.symm, rfl⟩

set_option maxRecDepth 100000 in
set_option maxHeartbeats 400000 in
theorem kRight_any (n v r p t : Int) (w : World) :
    Calls Tryz.prog 43 #[cfgv n v r p t] w fun e w' => e = .returned (.bool (chk n v r p t == 0)) ∧ Keeps (fun _ => False) w w' := by
  obtain ⟨W, hW, hkW, hA⟩ : ∃ W, w.alloc (.cells #[.int .i64 n, .int .i64 v, .int .i64 r, .int .i64 p, .int .i64 t] 29) = W ∧ Keeps (fun _ => False) w W ∧ W.heap[w.heap.size]? = some (.cells #[.int .i64 n, .int .i64 v, .int .i64 r, .int .i64 p, .int .i64 t] 29 (0, 0)) := ⟨_, rfl, (Keeps.refl _ w).alloc _, heap_alloc_new _ _⟩
  have hck := rCheck_any n v r p t W
  have a0 := cell_of_heap (o := 0) hA
  have a1 := cell_of_heap (o := 1) hA
  have a2 := cell_of_heap (o := 2) hA
  have a3 := cell_of_heap (o := 3) hA
  have a4 := cell_of_heap (o := 4) hA
  simp at a0 a1 a2 a3 a4
  generalize chk n v r p t = z at *
  go_enter Tryz.func43, Tryz.ntmps43
  go_wp2_with fail
  go_at_call 78
  refine hck.mono ?_
  rintro e w1 ⟨rfl, hk1⟩
  have HK := hide (hkW.trans hk1 (fun _ _ f => f))
  clear hk1 hkW hck hA
  go_wp2
  go_ret
  exact ⟨rfl, unhide HK⟩

end Go.Proofs.YthbmmbgkchiajaaGreat

/- How many events tell this outcome of the transaction. -/
namespace Go.Proofs.YthbmmbgkchiajaaGreat
set_option linter.unusedSimpArgs false
set_option linter.unusedVariables false
open Go.RowKit

def told (kind : Nat) (t : Tx) (oc : Nat) (e : Ev) : Bool := decide (e.kind = kind) && decide (e.txn = t) && decide (e.outcome = oc)
def tolds (kind : Nat) (t : Tx) (oc : Nat) (l : List Ev) : Nat := (l.filter (told kind t oc)).length

def eqT (x y : Value) : Sem Value := binOp .eql 38 x y
theorem eqT_eq (x y : Value) : binOp .eql 38 x y = eqT x y := rfl
theorem run_eqT (W : World) (a b : Tx) : (eqT (txv a) (txv b)).run Tryz.prog W = .ok (.bool (decide (a = b))) W := by
  have e : eqT (txv a) (txv b) = Value.bool <$> Op.equal 38 (txv a) (txv b) := rfl
  rw [e]
  simp [run_eqTx]
attribute [local go_sem ↓] eqT_eq

set_option maxRecDepth 100000 in
set_option maxHeartbeats 1000000 in
theorem agreed_some (g cap kind oc : Nat) (t : Tx) (l : List Ev) (w : World) (h : w.ownsRow 0 56 12 (.slice (some ⟨g, 0, none⟩) l.length cap) l.length (l.flatMap evCells)) (hl : l.length ≤ 1099511627776) :
    Calls Tryz.prog 35 #[.slice (some ⟨g, 0, none⟩) l.length cap, .int .i64 (kind : Int), txv t, .int .i64 (oc : Int)] w fun e w' => e = .returned (.int .i64 ((tolds kind t oc l : Nat) : Int)) ∧ Keeps (fun _ => False) w w' := by
  have HC : Hid (∀ j, j < l.length → ∀ x, x < 12 → w.cell? ⟨g, j * 12 + x, none⟩ = (evCells (l.getD j ev0))[x]?) := hide (fun j hlt x hx => by
    have h1 : (l.flatMap evCells)[j * 12 + x]? = (evCells (l.getD j ev0))[x]? := flat_get evCells 12 l j x _ (fun _ _ => rfl) (by rw [List.getD_eq_getElem?_getD, List.getElem?_eq_getElem hlt]; rfl) hx
    have h2 : (evCells (l.getD j ev0))[x]? = some ((evCells (l.getD j ev0))[x]'(by rw [evCells_len]; exact hx)) := List.getElem?_eq_getElem _
    rw [h2] at h1 ⊢
    exact row_cell h h1)
  have hgl : g < w.heap.size := (h.lt g rfl).2
  clear h
  unfold txv
  obtain ⟨ta, tb, tc⟩ := t
  simp only []
  obtain ⟨W, hW, hkW, hA⟩ : ∃ W, w.alloc (.cells #[.int .i64 (ta : Int), .int .i64 (tb : Int), .int .i64 (tc : Int)] 38) = W ∧ Keeps (fun _ => False) w W ∧ W.heap[w.heap.size]? = some (.cells #[.int .i64 (ta : Int), .int .i64 (tb : Int), .int .i64 (tc : Int)] 38 (0, 0)) := ⟨_, rfl, (Keeps.refl _ w).alloc _, heap_alloc_new _ _⟩
  have b0 := cell_of_heap (o := 0) hA
  have b1 := cell_of_heap (o := 1) hA
  have b2 := cell_of_heap (o := 2) hA
  simp at b0 b1 b2
  have HT0 : Hid (tolds kind ⟨ta, tb, tc⟩ oc (l.take 0) = 0) := hide rfl
  go_enter Tryz.func35, Tryz.ntmps35
  go_wp2
  go_loopw [9, 10] (fun s i wr => ∃ j x : Nat, j ≤ l.length ∧ x ≤ j ∧ s = .int .i64 (x : Int) ∧ i = .int .i64 (j : Int) ∧ (∃ q, wr = W.drewN q) ∧ Hid (tolds kind ⟨ta, tb, tc⟩ oc (l.take j) = x)) (fun _ i _ => l.length - (intOf i).toNat)
  case atStart => exact ⟨0, 0, by omega, by omega, rfl, rfl, ⟨0, rfl⟩, HT0⟩
  case round =>
    obtain ⟨j, x, hj, hx, rfl, rfl, ⟨q, hwr⟩, HR⟩ := hrel
    by_cases hlt : j < l.length
    · have hkq : Keeps (fun _ => False) w (W.drewN q) := hkW.drewN q
      have hel : ∀ x, x < 12 → (W.drewN q).cell? ⟨g, j * 12 + x, none⟩ = (evCells (l.getD j ev0))[x]? := fun x hx => by
        have h2 : (evCells (l.getD j ev0))[x]? = some ((evCells (l.getD j ev0))[x]'(by rw [evCells_len]; exact hx)) := List.getElem?_eq_getElem _
        rw [h2]
        exact hkq.cell' ((unhide HC j hlt x hx).trans h2) (fun f => f)
      have e0 := hel 0 (by omega)
      have e2 := hel 2 (by omega)
      have e3 := hel 3 (by omega)
      have e4 := hel 4 (by omega)
      have e5 := hel 5 (by omega)
      have HS : Hid (tolds kind ⟨ta, tb, tc⟩ oc (l.take (j + 1)) = x + (if told kind ⟨ta, tb, tc⟩ oc (l.getD j ev0) = true then 1 else 0)) := hide (by
        have hR := unhide HR
        unfold tolds at *
        rw [List.take_succ_eq_append_getElem hlt, List.filter_append, List.length_append, hR]
        have : l.getD j ev0 = l[j] := by simp [List.getD, hlt]
        rw [this]
        by_cases h : told kind ⟨ta, tb, tc⟩ oc l[j] = true <;> simp [h])
      have bq0 := ((Keeps.refl (fun _ => False) W).drewN q).cell' b0 (fun f => f)
      have bq1 := ((Keeps.refl (fun _ => False) W).drewN q).cell' b1 (fun f => f)
      have bq2 := ((Keeps.refl (fun _ => False) W).drewN q).cell' b2 (fun f => f)
      clear hel HR
      generalize l.getD j ev0 = ev at *
      obtain ⟨ek, en, ⟨ea, eb, ec⟩, eo, em⟩ := ev
      simp [evCells] at e0 e2 e3 e4 e5
      have h0 : (0 : Int) ≤ (j : Int) := Int.natCast_nonneg _
      have hlt' : (j : Int) < (l.length : Int) := by omega
      by_cases hk : ek = kind
      · subst hk
        have heq := fun W' => run_eqT W' ⟨ea, eb, ec⟩ ⟨ta, tb, tc⟩
        unfold txv at heq
        by_cases htx : (⟨ea, eb, ec⟩ : Tx) = ⟨ta, tb, tc⟩
        · rw [decide_eq_true htx] at heq
          by_cases ho : eo = oc
          · subst ho
            have HS' : Hid (tolds ek ⟨ta, tb, tc⟩ eo (l.take (j + 1)) = x + 1) := hide (by rw [unhide HS]; simp [told, htx])
            clear HS htx
            go_wp2_with fail
            go_quiet (fail)
            go_wp2
            go_roundw
            case rel => exact ⟨j + 1, x + 1, by omega, by omega, by go_num, by go_num, ⟨_, rfl⟩, HS'⟩
            case measure => simp [intOf]; omega
          · have hb : ((eo : Int) == (oc : Int)) = false := by rw [beq_eq_false_iff_ne]; omega
            have HS' : Hid (tolds ek ⟨ta, tb, tc⟩ oc (l.take (j + 1)) = x) := hide (by rw [unhide HS]; simp [told, ho])
            clear HS htx
            go_wp2_with fail
            go_quiet (fail)
            go_wp2
            go_roundw
            case rel => exact ⟨j + 1, x, by omega, by omega, rfl, by go_num, ⟨_, rfl⟩, HS'⟩
            case measure => simp [intOf]; omega
        · rw [decide_eq_false htx] at heq
          have HS' : Hid (tolds ek ⟨ta, tb, tc⟩ oc (l.take (j + 1)) = x) := hide (by rw [unhide HS]; simp [told, htx])
          clear HS htx
          go_wp2_with fail
          go_quiet (fail)
          go_wp2
          go_roundw
          case rel => exact ⟨j + 1, x, by omega, by omega, rfl, by go_num, ⟨_, rfl⟩, HS'⟩
          case measure => simp [intOf]; omega
      · have hb : ((ek : Int) == (kind : Int)) = false := by rw [beq_eq_false_iff_ne]; omega
        have HS' : Hid (tolds kind ⟨ta, tb, tc⟩ oc (l.take (j + 1)) = x) := hide (by rw [unhide HS]; simp [told, hk])
        clear HS
        go_wp2_with fail
        go_quiet (fail)
        go_wp2
        go_roundw
        case rel => exact ⟨j + 1, x, by omega, by omega, rfl, by go_num, ⟨_, rfl⟩, HS'⟩
        case measure => simp [intOf]; omega
    · have hjl : j = l.length := by omega
      subst hjl
      have hR := unhide HR
      rw [List.take_length] at hR
      have hge : ¬ (l.length : Int) < (l.length : Int) := by omega
      have HE : Hid (tolds kind ⟨ta, tb, tc⟩ oc l = x ∧ Keeps (fun _ => False) w (W.drewN q)) := hide ⟨hR, hkW.drewN q⟩
      clear hR HR
      go_wp2
      go_ret
      exact ⟨by rw [(unhide HE).1]; rfl, (unhide HE).2⟩

end Go.Proofs.YthbmmbgkchiajaaGreat
