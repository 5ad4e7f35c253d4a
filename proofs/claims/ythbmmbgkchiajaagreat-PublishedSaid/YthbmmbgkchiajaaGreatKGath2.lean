
/- What a node has done is taken in: the walk. -/
import Derived.Test.YthbmmbgkchiajaaGreatKAt
namespace Go.Proofs.YthbmmbgkchiajaaGreat
set_option linter.unusedSimpArgs false
set_option linter.unusedVariables false
open Go.RowKit

def evApp (args : Array Value) : Sem Value := Builtin.append_ #[48, 48] 48 args
theorem evApp_eq (args : Array Value) : Builtin.append_ #[48, 48] 48 args = evApp args := rfl
theorem run_evApp_nil (W : World) (b : Option Addr) (n c : Nat) (h : n ≤ c) : (evApp #[.slice b n c, .slice none 0 0]).run Tryz.prog W = .ok (.slice b n c) W := by
  obtain ⟨i0, hi0, hz0, hz1, hz2⟩ := info_parts infoEvent
  unfold evApp Builtin.append_
  cases b <;> simp [go_sem, Tryz.underlying48, hi0, Builtin.lenOf, Builtin.firstCells, h, storeCells]
theorem run_evApp (W : World) (v : Value) (n m gv cv : Nat) (xs news : List Value) (hown : W.ownsRow 0 56 12 v n xs) (hl : news.length = m * 12) (hnews : ∀ j u, news[j]? = some u → W.cell? ((⟨gv, 0, none⟩ : Addr).add j) = some u) (h1 : ∀ u ∈ news, u.oneCell' = true) (hn : n + m ≤ 1099511627776) :
    ∃ b q z W', (evApp #[v, .slice (some ⟨gv, 0, none⟩) m cv]).run Tryz.prog W = .ok (.slice b q z) W' ∧ Hid (W'.ownsRow 0 56 12 (.slice b q z) (n + m) (xs ++ news) ∧ Keeps (fun k => v.ownBlock = some k) W W' ∧ ((Value.slice b q z).ownBlock = v.ownBlock ∨ (Value.slice b q z).ownBlock = some W.heap.size)) := by
  obtain ⟨iB, hiB, hz0, hz1, hz2⟩ := info_parts infoEvent
  obtain ⟨v', W', r0, r1, r2, _, r4⟩ := run_append_own_at (P := Tryz.prog) W 0 48 48 56 iB _ 12 96 Tryz.underlying48 hiB hz0 hz1 hz2 ev_zero_size (by omega) v n xs hown ⟨gv, 0, none⟩ m cv news hl hnews h1 (by unfold maxLen; omega) (by omega) (Nat.zero_le _)
  obtain ⟨b, q, z, rfl⟩ : ∃ b q z, v' = .slice b q z := by
    rcases r1.2 with ⟨e, _⟩ | ⟨_, _, _, e, _⟩ <;> exact ⟨_, _, _, e⟩
  exact ⟨b, q, z, W', r0, hide ⟨r1, (Keeps.refl (fun k => v.ownBlock = some k) W).grown r2 (fun k hk _ => hk), r4⟩⟩

theorem KG.tracePost {c : Nat → CTag} {w w1 : World} {pk : Nat} {K : KM} {B : Nat} {vr vn vt : Value} (h : KG c w pk K B vr vn vt) (l : List Ev) (htr : K.trace.length + l.length ≤ B) {v' : Value} {H : Nat} (hk1 : Keeps (fun k => vt.ownBlock = some k) w w1)
    (hown1 : w1.ownsRow 0 56 12 v' (K.trace.length + l.length) (K.trace.flatMap evCells ++ l.flatMap evCells)) (hat : v'.ownBlock = vt.ownBlock ∨ v'.ownBlock = some H) (hH : w.heap.size ≤ H) :
    KFine c w pk { K with trace := K.trace ++ l } B (w1.setCell ⟨pk, 2, none⟩ v') := by
  have hpk := lt_of_heap h.self
  have hpn : ¬ vt.ownBlock = some pk := fun e => by have h1 : c pk = .trace := h.trace.2 _ e; rw [h.own] at h1; cases h1
  have hb1 := hk1.heap h.self hpn
  have hks : Keeps (fun k => k = pk) w1 (w1.setCell ⟨pk, 2, none⟩ v') := (Keeps.refl (fun k => k = pk) w1).setCell (p := ⟨pk, 2, none⟩) (.inl rfl) _
  have hkk : Keeps (fun k => k = pk ∨ vt.ownBlock = some k) w (w1.setCell ⟨pk, 2, none⟩ v') := (hk1.mono (T := fun k => k = pk ∨ vt.ownBlock = some k) (fun _ _ e => .inr e)).trans hks (fun _ _ e => .inl e)
  have hq : ∀ k, k = pk ∨ vt.ownBlock = some k → c k = .self ∨ c k = .trace := fun k e => by
    rcases e with rfl | e
    · exact .inl h.own
    · exact .inr (h.trace.2 _ e)
  have hc : ∀ k, k < w.heap.size → ctagsUp c w .trace k = c k := fun k hk => ctagsUp_old hk
  refine ⟨⟨ctagsUp c w .trace, hc, vr, vn, v', ?_, (hc _ hpk).trans h.own, h.row.ckeep hkk hc (fun k _ e e' => by rcases hq k e' with q | q <;> rw [q] at e <;> cases e), h.net.ckeep hkk hc (fun k _ e e' => by rcases hq k e' with q | q <;> rw [q] at e <;> cases e), ?_, h.len, fun i n p h1 h2 => (h.nodesKeep hkk hc (fun k _ ⟨i, t, e⟩ e' => by rcases hq k e' with q | q <;> rw [q] at e <;> cases e) i n p h1 h2), ?_⟩, hkk.mono (fun k _ e => by rcases hq k e with q | q; exact .inl q; exact .inr (.inr q))⟩
  · rw [heap_setCell_same hb1]; rfl
  · show Own _ _ _ _ _ (K.trace ++ l).length ((K.trace ++ l).flatMap evCells)
    rw [List.length_append, List.flatMap_append]
    refine Own.keep (S := fun k => ctagsUp c w .trace k = .trace) ⟨hown1, fun k e => ?_⟩ hks (fun k _ e e' => ?_)
    · rcases hat with e' | e'
      · rw [e'] at e
        rw [ctagsUp_old (Own.lt h.trace e)]; exact h.trace.2 _ e
      · rw [e'] at e
        simp only [Option.some.injEq] at e
        exact ctagsUp_new (by omega)
    · subst e'
      rw [ctagsUp_old hpk, h.own] at e
      cases e
  · exact ⟨h.small.1, by show (K.trace ++ l).length ≤ B; rw [List.length_append]; exact htr, h.small.2.2⟩
attribute [local go_sem ↓] evApp_eq

theorem evs_one (l : List Ev) : ∀ u ∈ l.flatMap evCells, u.oneCell' = true := fun u hu => by
  obtain ⟨e, _, h⟩ := List.mem_flatMap.1 hu
  exact evCells_one e u h
theorem evs_len (l : List Ev) : (l.flatMap evCells).length = l.length * 12 := by
  induction l with
  | nil => rfl
  | cons a l ih => rw [List.flatMap_cons, List.length_append, ih, evCells_len, List.length_cons]; omega

theorem row_cell {w : World} {e size n g cap : Nat} {xs : List Value} (h : w.ownsRow 0 e size (.slice (some ⟨g, 0, none⟩) n cap) n xs) {j : Nat} {u : Value} (hj : xs[j]? = some u) : w.cell? ⟨g, j, none⟩ = some u := by
  rcases h.2 with ⟨e1, _⟩ | ⟨g', c', cur, e1, _, hg', hc', _, hsz, ht⟩
  · cases e1
  · cases e1
    rw [cell_of_heap hg']
    have := congrArg (fun l => l[j]?) ht
    rw [hj, List.getElem?_take] at this
    split at this
    · simpa using this
    · cases this

set_option maxRecDepth 100000 in
set_option maxHeartbeats 1000000 in
theorem gather_any (c : Nat → CTag) (pk B gv cv : Nat) (K : KM) (l : List Ev) (w : World) (h : KAt c w pk K B) (hl : l.length ≤ 1000) (hcv : l.length ≤ cv) (hev : w.ownsRow 0 56 12 (.slice (some ⟨gv, 0, none⟩) l.length cv) l.length (l.flatMap evCells)) (hg : c gv ≠ .self ∧ c gv ≠ .net ∧ c gv ≠ .trace) (hB : B + l.length + 1000 ≤ 1099511627776) :
    Calls Tryz.prog 49 #[.pointer (some ⟨pk, 0, none⟩), .slice (some ⟨gv, 0, none⟩) l.length cv] w fun e w' => e = .returned (.tuple #[]) ∧ KFine c w pk { K with net := K.net ++ sentOf l, trace := K.trace ++ l } (B + l.length) w' := by
  have hgl : gv < w.heap.size := (hev.lt gv rfl).2
  obtain ⟨i0, hi0, hz0, hz1, hz2⟩ := info_parts infoMsg
  have htr : K.trace.length ≤ B := by obtain ⟨_, _, _, g⟩ := h; exact g.small.2.1
  have HR0 : Hid (KFine c w pk { K with net := K.net ++ sentOf (l.take 0) } (B + 0) w) := hide (by
    have e : ({ K with net := K.net ++ sentOf (l.take 0) } : KM) = K := by unfold sentOf; simp
    rw [e]; exact KFine.refl h)
  have HEV := hide hev
  have HG := hide hg
  clear h hev hg
  go_enter Tryz.func49, Tryz.ntmps49
  go_wp2
  go_loopw [8] (fun i wr => ∃ j : Nat, j ≤ l.length ∧ i = .int .i64 j ∧ Hid (KFine c w pk { K with net := K.net ++ sentOf (l.take j) } (B + j) wr)) (fun i _ => l.length - (intOf i).toNat)
  case atStart => exact ⟨0, by omega, rfl, HR0⟩
  case round =>
    obtain ⟨j, hj, rfl, HR⟩ := hrel
    by_cases hlt : j < l.length
    · have hR := unhide HR
      obtain ⟨c1, f1, ⟨vr, vn, vt, g1⟩, t1⟩ := hR.next
      have hel : ∀ x, x < 12 → wr.cell? ⟨gv, j * 12 + x, none⟩ = (evCells (l.getD j ev0))[x]? := fun x hx => by
        have h1 : (l.flatMap evCells)[j * 12 + x]? = (evCells (l.getD j ev0))[x]? := flat_get evCells 12 l j x _ (fun _ _ => rfl) (by rw [List.getD_eq_getElem?_getD, List.getElem?_eq_getElem hlt]; rfl) hx
        have h2 : (evCells (l.getD j ev0))[x]? = some ((evCells (l.getD j ev0))[x]'(by rw [evCells_len]; exact hx)) := List.getElem?_eq_getElem _
        rw [h2] at h1 ⊢
        exact hR.2.cell' (row_cell (unhide HEV) h1) (fun e => by rcases e with e | e | e; exact (unhide HG).1 e; exact (unhide HG).2.1 e; exact (unhide HG).2.2 e)
      have HS : Hid (sentOf (l.take (j + 1)) = sentOf (l.take j) ++ (if (l.getD j ev0).kind = 1 then [(l.getD j ev0).msg] else [])) := hide (by rw [List.take_succ_eq_append_getElem hlt, sentOf_snoc]; simp [List.getD, hlt])
      have e0 := hel 0 (by omega)
      have e1 := hel 1 (by omega)
      have e2 := hel 2 (by omega)
      have e3 := hel 3 (by omega)
      have e4 := hel 4 (by omega)
      have e5 := hel 5 (by omega)
      have e6 := hel 6 (by omega)
      have e7 := hel 7 (by omega)
      have e8 := hel 8 (by omega)
      have e9 := hel 9 (by omega)
      have e10 := hel 10 (by omega)
      have e11 := hel 11 (by omega)
      clear hel
      generalize l.getD j ev0 = ev at *
      obtain ⟨ek, en, ⟨ea, eb, ec⟩, eo, ⟨mk1, mf, mt, ⟨ma, mb, mc⟩⟩⟩ := ev
      simp [evCells] at e0 e1 e2 e3 e4 e5 e6 e7 e8 e9 e10 e11
      have h0 : (0 : Int) ≤ (j : Int) := Int.natCast_nonneg _
      have hlt' : (j : Int) < (l.length : Int) := by omega
      by_cases hk1 : ek = 1
      · subst hk1
        have HE : Hid (∀ w', KFine c1 wr pk { K with net := (K.net ++ sentOf (l.take j)) ++ [⟨mk1, mf, mt, ⟨ma, mb, mc⟩⟩] } (B + j + 1) w' → KFine c w pk { K with net := K.net ++ sentOf (l.take (j + 1)) } (B + (j + 1)) w') := hide (fun w' hk => by
          rw [unhide HS, ← List.append_assoc]
          exact t1 _ _ _ hk)
        have hself := g1.self
        have hnet := g1.net
        have hN : (K.net ++ sentOf (l.take j)).length ≤ B + j := g1.small.1
        have hpn : ¬ vn.ownBlock = some pk := fun e => by have h1 : c1 pk = .net := g1.net.2 _ e; rw [g1.own] at h1; cases h1
        have HP : Hid (∀ (gg cap H : Nat) (w1 : World), Keeps (fun k => vn.ownBlock = some k) wr w1 → w1.ownsRow 0 54 6 (.slice (some ⟨gg, 0, none⟩) ((K.net ++ sentOf (l.take j)).length + 1) cap) ((K.net ++ sentOf (l.take j)).length + 1) ((K.net ++ sentOf (l.take j)).flatMap msgCells ++ msgCells ⟨mk1, mf, mt, ⟨ma, mb, mc⟩⟩) → (vn.ownBlock = some gg ∨ gg = H) → wr.heap.size ≤ H → KFine c1 wr pk { K with net := (K.net ++ sentOf (l.take j)) ++ [⟨mk1, mf, mt, ⟨ma, mb, mc⟩⟩] } (B + j + 1) (w1.setCell ⟨pk, 1, none⟩ (.slice (some ⟨gg, 0, none⟩) ((K.net ++ sentOf (l.take j)).length + 1) cap))) := hide (fun gg cap H w1 a1 a2 a3 a4 => g1.netPost (by omega) ⟨mk1, mf, mt, ⟨ma, mb, mc⟩⟩ a1 a2 a3 a4)
        have hnet' : Own (fun k => c1 k = .net) wr 54 6 vn (K.net ++ sentOf (l.take j)).length ((K.net ++ sentOf (l.take j)).flatMap msgCells) := hnet
        clear hnet hR HR g1 t1 HS
        generalize K.net ++ sentOf (l.take j) = L at *
        go_wp2_with fail
        generalize hW : World.alloc wr _ = W
        have hk : Keeps (fun _ => False) wr W := by rw [← hW]; exact (Keeps.refl _ wr).alloc _
        have hA : W.heap[wr.heap.size]? = some (.cells #[.int .i64 1, .int .i64 (en : Int), .int .i64 (ea : Int), .int .i64 (eb : Int), .int .i64 (ec : Int), .int .i64 (eo : Int), .int .i64 (mk1 : Int), .int .i64 (mf : Int), .int .i64 (mt : Int), .int .i64 (ma : Int), .int .i64 (mb : Int), .int .i64 (mc : Int)] 56 (0, 0)) := by
          rw [← hW]; exact heap_alloc_new _ _
        clear hW
        have d6 := cell_of_heap (o := 6) hA
        have d7 := cell_of_heap (o := 7) hA
        have d8 := cell_of_heap (o := 8) hA
        have d9 := cell_of_heap (o := 9) hA
        have d10 := cell_of_heap (o := 10) hA
        have d11 := cell_of_heap (o := 11) hA
        simp at d6 d7 d8 d9 d10 d11
        have hself1 := hk.heap hself (fun f => f)
        have c1' := cell_of_heap (o := 1) hself1
        simp at c1'
        have hnet1 : W.ownsRow 0 54 6 vn L.length (L.flatMap msgCells) := (Own.keep hnet' hk (fun _ _ _ f => f)).1
        have hplW := lt_of_heap hself1
        have hwW := lt_of_heap hA
        have hsz := hk.size
        clear e0 e1 e2 e3 e4 e5 e6 e7 e8 e9 e10 e11
        go_region_law ((refine step_append_lies _ (by rfl) _ _ _ (by rfl) 0 54 i0 _ 6 48 Tryz.underlying42 hi0 hz0 hz1 hz2 msg_zero_size (by omega) vn L.length (L.flatMap msgCells) (by rfl) ((hnet1.alloc _).drew) ⟨W.heap.size, 0, none⟩ 1 1 (msgCells ⟨mk1, mf, mt, ⟨ma, mb, mc⟩⟩) (by rfl) (by rfl) (World.news_of_block (cs := (msgCells ⟨mk1, mf, mt, ⟨ma, mb, mc⟩⟩).toArray) (t := 54) (fr := (0, 0)) (by exact heap_alloc_new _ _)) (msgCells_one _) (by omega) (by unfold maxLen; omega) (by omega) (Nat.zero_le _) (W.heap.size + 1) (by simp) ?_; intro gg cap' w1 hown1 hgrow hat hlt1; have hk1 := keeps_grown ((Keeps.refl _ W).alloc _).drew hgrow; have hb1 := hk1.heap hself1 hpn; have hc2 := cell_of_heap (o := 1) hb1; have hf2 := frozen_of_heap (o := 1) hb1; simp at hc2))
        all_goals
          go_wp2
          go_roundw
          case rel => exact ⟨j + 1, by omega, by go_num, hide ((unhide HE) _ ((unhide HP) gg cap' (W.heap.size + 1) w1 ((hk.mono (fun _ _ f => f.elim)).trans hk1 (fun _ _ e => e)) hown1 hat (by omega)))⟩
          case measure => simp [intOf]; omega
      · have hb1 : ((ek : Int) == 1) = false := by rw [beq_eq_false_iff_ne]; omega
        have HE : Hid (∀ w', Keeps (fun _ => False) wr w' → KFine c w pk { K with net := K.net ++ sentOf (l.take (j + 1)) } (B + (j + 1)) w') := hide (fun w' hk => by
          rw [unhide HS]
          simp only [if_neg hk1, List.append_nil]
          refine (t1 _ _ (B + j) ?_).up (B' := B + (j + 1)) (by omega) (by omega)
          exact ⟨⟨c1, fun _ _ => rfl, vr, vn, vt, g1.keep hk (fun _ _ => rfl) (fun _ _ _ f => f)⟩, hk.mono (fun _ _ f => f.elim)⟩)
        clear hR HR g1 t1 hk1
        go_wp2
        go_roundw
        case rel => exact ⟨j + 1, by omega, by go_num, hide ((unhide HE) _ ((Keeps.refl _ _).alloc _))⟩
        case measure => simp [intOf]; omega
    · have hjl : j = l.length := by omega
      subst hjl
      have hR := unhide HR
      rw [List.take_length] at hR
      obtain ⟨c1, f1, ⟨vr, vn, vt, g1⟩, t1⟩ := hR.next
      have h0 : (0 : Int) ≤ (l.length : Int) := Int.natCast_nonneg _
      have hlt' : ¬ (l.length : Int) < (l.length : Int) := by omega
      obtain ⟨vb, vq, vz, W', r0, r1⟩ := run_evApp wr vt K.trace.length l.length gv cv (K.trace.flatMap evCells) (l.flatMap evCells) g1.trace.1 (evs_len l) (fun j u hu => by
        have hadd : (⟨gv, 0, none⟩ : Addr).add j = ⟨gv, j, none⟩ := by unfold Addr.add; split <;> simp_all
        rw [hadd]
        exact hR.2.cell' (row_cell (unhide HEV) hu) (fun e => by rcases e with e | e | e; exact (unhide HG).1 e; exact (unhide HG).2.1 e; exact (unhide HG).2.2 e)) (evs_one l) (by omega)
      have HP : Hid (KFine c w pk { K with net := K.net ++ sentOf l, trace := K.trace ++ l } (B + l.length) (W'.setCell ⟨pk, 2, none⟩ (.slice vb vq vz))) := hide (t1 _ _ _ (g1.tracePost l (by show K.trace.length + l.length ≤ _; omega) (unhide r1).2.1 (unhide r1).1 (unhide r1).2.2 (Nat.le_refl _)))
      have hself := g1.self
      have c2 := cell_of_heap (o := 2) hself
      simp at c2
      have hpn : ¬ vt.ownBlock = some pk := fun e => by have h1 : c1 pk = .trace := g1.trace.2 _ e; rw [g1.own] at h1; cases h1
      have hself1 := (unhide r1).2.1.heap hself hpn
      have c2' := cell_of_heap (o := 2) hself1
      have f2' := frozen_of_heap (o := 2) hself1
      simp at c2'
      clear g1 t1 hR HR
      go_wp2
      go_end0
      exact ⟨rfl, unhide HP⟩

end Go.Proofs.YthbmmbgkchiajaaGreat
