
/- What a journal tells of itself. -/
import Derived.Test.YthbmmbgkchiajaaGreatQLook
namespace Go.Proofs.YthbmmbgkchiajaaGreat
open Go.RowKit

theorem run_clone2 (S : Nat → Prop) (W : World) (ao : Addr) (cap : Nat) (s : ByteArray) (h : Bytes S W (.slice (some ao) s.size cap) s) (hs : s.size ≤ 40) :
    ∃ ao' c' W', (byApp #[.slice (some ⟨W.heap.size, 0, none⟩) 0 0, .slice (some ao) s.size cap]).run Tryz.prog (W.alloc (.cells #[] 5)) = .ok (.slice ao' s.size c') W' ∧ Hid (Bytes (fun k => W.heap.size ≤ k) W' (.slice ao' s.size c') s ∧ OutV W.heap.size W' ao' s.size c' ∧ Keeps (fun _ => False) W W') := by
  obtain ⟨iB, hiB, hz0, hz1, hz2⟩ := info_parts infoU8
  have hkA : Keeps (fun _ => False) W (W.alloc (.cells #[] 5)) := (Keeps.refl _ _).alloc _
  obtain ⟨ao', cap', hv, h2, h3, h4⟩ := h.keep hkA (fun _ _ _ f => f)
  cases hv
  obtain ⟨g, o, rfl, e1, e2, e3⟩ := h4 _ rfl
  have hown : (W.alloc (.cells #[] 5)).ownsRow 0 5 1 (.slice (some ⟨W.heap.size, 0, none⟩) 0 0) 0 [] := ⟨rfl, .inr ⟨W.heap.size, 0, #[], rfl, Nat.zero_le _, heap_alloc_last W _, Nat.le_refl _, Nat.zero_le _, rfl, rfl⟩⟩
  obtain ⟨v', W', r0, r1, r2, _, r4⟩ := run_append_own_at (P := Tryz.prog) (W.alloc (.cells #[] 5)) 0 138 138 5 iB _ 1 1 Tryz.underlying138 hiB hz0 hz1 hz2 rfl (by omega) (.slice (some ⟨W.heap.size, 0, none⟩) 0 0) 0 [] hown ⟨g, o, none⟩ s.size cap (bcells s) (by rw [bcells_length]; omega)
    (fun j u hj => by
      have hadd : (⟨g, o, none⟩ : Addr).add j = ⟨g, o + j, none⟩ := by unfold Addr.add; split <;> simp_all
      rw [hadd]; exact e3 j u hj) (bcells_one s) (by unfold maxLen; omega) (by omega) (Nat.zero_le _)
  have hkw : Keeps (fun _ => False) W W' := (hkA.mono (T := fun k => k = W.heap.size) (fun _ _ f => f.elim)).grown r2 (fun k hk _ => by simpa [Value.ownBlock] using hk.symm) |>.mono (fun k hk e => by omega)
  rcases r1.2 with ⟨rfl, h0⟩ | ⟨g', c', cur, rfl, _, hg', hc', hcm, hsz, ht⟩
  · have e0 : s.size = 0 := by omega
    refine ⟨none, 0, W', r0.trans (by rw [e0]), hide ⟨⟨none, 0, rfl, by omega, fun _ => e0, fun a ha => by cases ha⟩, ⟨by omega, Nat.zero_le _, .inl ⟨rfl, e0, rfl⟩⟩, hkw⟩⟩
  · have hg : W.heap.size ≤ g' := by
      have : g' = W.heap.size ∨ g' = W.heap.size + 1 := by
        rcases r4 with r4 | r4
        · exact .inl (by simpa [Value.ownBlock] using r4)
        · exact .inr (by simpa [Value.ownBlock] using r4)
      omega
    refine ⟨some ⟨g', 0, none⟩, c', W', r0.trans (by rw [Nat.zero_add]), hide ⟨Bytes.row hg' hg rfl (by omega) (fun j hj => ?_), ⟨by omega, hcm, .inr ⟨g', 0, cur, _, rfl, hg, hg', by omega⟩⟩, hkw⟩⟩
    have := congrArg (fun l => l[j]?) ht
    simp only [List.nil_append, Nat.mul_one] at this
    rw [List.getElem?_take, if_pos (by rw [bcells_length] at hj; omega)] at this
    rw [Nat.zero_add, ← this]; simp

attribute [local go_sem ↓] strOf_eq byApp_eq byBuild0_eq
attribute [local go_sem] run_byBuild0

set_option maxRecDepth 100000 in
set_option maxHeartbeats 1600000 in
theorem bClone_out (S : Nat → Prop) (v : Value) (s : ByteArray) (w : World) (h : Bytes S w v s) (hs : s.size ≤ 40) :
    Calls Tryz.prog 261 #[v] w fun e w' => ∃ ao' c', e = .returned (.slice ao' s.size c') ∧ Bytes (fun k => w.heap.size ≤ k) w' (.slice ao' s.size c') s ∧ OutV w.heap.size w' ao' s.size c' ∧ Keeps (fun _ => False) w w' := by
  have h' := h
  obtain ⟨ao, cap, rfl, h2, h3, h4⟩ := h'
  have hnil := fun W => run_nilBz W ao s.size cap
  cases ao with
  | none =>
    have HS := hide (h3 rfl)
    clear h3 h4 h
    go_enter Tryz.func261, Tryz.ntmps261
    go_wp2
    go_ret
    exact ⟨none, 0, by rw [unhide HS]; rfl, ⟨none, 0, rfl, by rw [unhide HS]; omega, fun _ => unhide HS, fun a ha => by cases ha⟩, ⟨by rw [unhide HS]; omega, Nat.zero_le _, .inl ⟨rfl, unhide HS, rfl⟩⟩, Keeps.refl _ _⟩
  | some a =>
    obtain ⟨ao', c', W', hr, HR⟩ := run_clone2 S w a cap s h hs
    clear h3 h4 h
    go_enter Tryz.func261, Tryz.ntmps261
    go_wp2
    go_ret
    exact ⟨ao', c', rfl, (unhide HR).1, (unhide HR).2.1, (unhide HR).2.2⟩

set_option maxRecDepth 100000 in
set_option maxHeartbeats 1600000 in
theorem jNote_out (S : Nat → Prop) (pj pd ring per low next dur epoch : Nat) (note : ByteArray) (m : DM) (w : World) (hJ : JD S w pj pd ring per low next dur epoch note m) (hn : note.size ≤ 40) :
    Calls Tryz.prog 242 #[.pointer (some ⟨pj, 0, none⟩)] w fun e w' => ∃ ao' c', e = .returned (.slice ao' note.size c') ∧ Bytes (fun k => w.heap.size ≤ k) w' (.slice ao' note.size c') note ∧ OutV w.heap.size w' ao' note.size c' ∧ Keeps (fun _ => False) w w' := by
  obtain ⟨vn, hat, hB⟩ := hJ.at
  obtain ⟨c0, c1, c2, c3, c4, c5, c6, c7⟩ := hat.cells
  have HC := hide (bClone_out S vn note w hB hn)
  clear hJ hat hB
  go_enter Tryz.func242, Tryz.ntmps242
  go_wp2_with fail
  go_at_call 261
  refine (unhide HC).mono ?_
  rintro e w1 ⟨ao', c', rfl, hb, ho, hk⟩
  have HB := hide hb
  have HK := hide hk
  have HO := hide ho
  clear hb hk ho
  go_wp2
  go_ret
  exact ⟨ao', c', rfl, unhide HB, unhide HO, unhide HK⟩

set_option maxRecDepth 100000 in
set_option maxHeartbeats 1600000 in
theorem state_any (D R T : Nat → Prop) (v pw : Nat) (j : JM) (m : DM) (vcs vvs vks vb v4 v5 v6 : Value) (ls : List Value) (w : World) (h : VolA D R w v (.jour j m true)) (hpw : w.heap[pw]? = some (.cells #[vcs, vvs, vks, vb, v4, v5, v6] 79 (0, 0))) (hrow : Own T w 138 1 vb ls.length ls) (hpT : ¬ T pw) (hN : (ls.length + 4) * 24 ≤ 140737488355328) :
    Calls Tryz.prog 204 #[.pointer (some ⟨pw, 0, none⟩), .pointer (some ⟨v, 0, none⟩)] w fun e w' => e = .returned (.bool true) ∧ LookPost T pw vcs vvs vks v4 v5 v6 ls w w' := by
  obtain ⟨d, r, rj, dirty, vj, hv, hrj0, hu⟩ := h.1
  obtain ⟨pj, rfl, hju⟩ : ∃ pj, vj = .pointer (some ⟨pj, 0, none⟩) ∧ JUse D w pj d j m := by
    rcases hu with ⟨_, pj, e1, e2⟩ | ⟨e, _⟩
    · exact ⟨pj, e1, e2⟩
    · cases e
  obtain ⟨vn, hat⟩ := hju.at
  obtain ⟨j0, j1, j2, j3, j4, j5, j6, j7⟩ := hat.cells
  have hnote := hju.2.1.ok.note
  have hfew := hju.2.1.ok.few
  have hpl := hju.2.1.putsLen
  have hsf := hju.2.1.safe
  have HFA : Hid (∀ X, Keeps (fun _ => False) w X → (X.cell? ⟨v, 0, none⟩ = some (.pointer (some ⟨d, 0, none⟩)) ∧ X.cell? ⟨v, 4, none⟩ = some (.pointer (some ⟨rj, 0, none⟩))) ∧ RJ R X rj j ∧ ∃ aq cq, X.cell? ⟨d, 1, none⟩ = some (.slice aq m.puts.length cq)) := hide fun X hX => by
    have q := hX.heap hv (fun f => f)
    refine ⟨⟨cell_of_heap q, cell_of_heap q⟩, hrj0.keep hX (fun _ _ _ f => f), ?_⟩
    obtain ⟨vd, vq, hbd, _, _, hqd⟩ := (hju.keep hX (fun _ _ _ f => f)).1.disk
    obtain ⟨aq, cq, rfl, _⟩ := hqd.len
    exact ⟨aq, cq, cell_of_heap hbd⟩
  have HLK := hide (fun w1 ao nl cap (hk : Keeps (fun _ => False) w w1) (hnl : nl ≤ 1000) (ho : OutV w.heap.size w1 ao nl cap) => look_keeps hpw hrow hpT hN hk hnl ho)
  have HNO := hide (jNote_out D pj d _ _ _ _ _ _ j.note m w hju.1 hnote)
  have c3 := cell_of_heap (o := 3) hv
  simp at c3
  clear h hv hrj0 hu hju hat hpw hrow
  go_enter Tryz.func204, Tryz.ntmps204
  go_wp2_with fail
  go_at_call 152
  refine (jLow_any pj _ w j3).mono ?_
  rintro e w1 ⟨rfl, rfl⟩
  go_wp2_with fail
  go_at_call 153
  refine (jNext_any pj _ w1 j4).mono ?_
  rintro e w1 ⟨rfl, rfl⟩
  go_wp2_with fail
  go_at_call 264
  refine (jDurable_any pj _ w1 j5).mono ?_
  rintro e w1 ⟨rfl, rfl⟩
  go_wp2_with fail
  go_at_call 222
  refine (jEpoch_any pj _ w1 j6).mono ?_
  rintro e w1 ⟨rfl, rfl⟩
  go_wp2_with fail
  go_at_call 242
  refine (unhide HNO).mono ?_
  rintro e w2 ⟨ao', c', rfl, hb2, ho2, hk2⟩
  have HB2 := hide hb2
  have HO2 := hide ho2
  have HK2 := hide hk2
  obtain ⟨⟨q0, q4⟩, hr2, aq, cq, hcq⟩ := unhide HFA w2 hk2
  have HR2 := hide hr2
  clear hb2 ho2 hk2 hr2 j0 j1 j2 j3 j4 j5 j6 j7 c3
  go_wp2_with fail
  go_at_call 178
  refine (dPending_any d _ _ _ w2 hcq).mono ?_
  rintro e w2' ⟨rfl, rfl⟩
  go_wp2_with fail
  go_at_call 265
  refine (rjNext_any R rj j w2' (unhide HR2) (by omega)).mono ?_
  rintro e w3 ⟨rfl, rfl⟩
  obtain ⟨al, cl, _, _, y0, y1, y2, y3, y4, y5, y6⟩ := (unhide HR2).cells
  rename_i hx1 hx2; clear hx1 hx2
  have hstr : ∀ n, (strOf (.slice ao' j.note.size c')).run Tryz.prog (w3.drewN n) = .ok (.string j.note) (w3.drewN n) := fun n => run_strOf _ _ _ j.note ((unhide HB2).keep ((Keeps.refl (fun _ => False) w3).drewN n) (fun _ _ _ f => f))
  have hpe : ((m.puts.length : Int) == (j.L.length : Int) - (j.safe : Int)) = true := by rw [beq_iff_eq]; omega
  have HPL := hide hpl
  clear hpl
  go_wp2
  go_quiet (fail)
  have hkx : Keeps (fun _ => False) w3 (w3.drewN nq) := (Keeps.refl _ w3).drewN nq
  generalize w3.drewN nq = X at *
  have HLL := hide (unhide HLK X ao' j.note.size c' ((unhide HK2).trans hkx (fun _ _ f => f)) (by omega) (by
    obtain ⟨o1, o2, o3⟩ := unhide HO2
    refine ⟨o1, o2, ?_⟩
    rcases o3 with o3 | ⟨g, off, cs, e, a1, a2, a3, a4⟩
    · exact .inl o3
    · exact .inr ⟨g, off, cs, e, a1, a2, hkx.heap a3 (fun f => f), a4⟩))
  clear hkx hstr q0 q4 y0 y1 y2 y3 y4 y5 y6
  go_wp2_with fail
  go_at_call 194
  refine (unhide HLL).mono ?_
  rintro e w5 ⟨rfl, hlp⟩
  have HLP := hide hlp
  clear hlp
  go_wp2
  go_ret
  exact ⟨ret_bool (by rw [beq_iff_eq, IntWalk.i64_in _ ⟨by omega, by omega⟩]; omega), unhide HLP⟩

set_option maxRecDepth 100000 in
set_option maxHeartbeats 1600000 in
theorem noted_state (T : Nat → Prop) (v pw : Nat) (vcs vvs vks v4 v5 v6 : Value) (ls : List Value) (a b c : Int) (s : ByteArray) (vk vp : Value) (w : World)
    (hS : ∀ X, Keeps (fun _ => False) w X → Calls Tryz.prog 204 #[.pointer (some ⟨pw, 0, none⟩), .pointer (some ⟨v, 0, none⟩)] X fun e w' => e = .returned (.bool true) ∧ LookPost T pw vcs vvs vks v4 v5 v6 ls w w') :
    Calls Tryz.prog 126 #[.pointer (some ⟨pw, 0, none⟩), .pointer (some ⟨v, 0, none⟩), opv 13 a b c s vk vp] w fun e w' => e = .returned (.bool true) ∧ LookPost T pw vcs vvs vks v4 v5 v6 ls w w' := by
  have HF := hide (hS _ ((Keeps.refl _ w).alloc (.cells #[.int .i64 13, .int .i64 a, .int .i64 b, .int .i64 c, .string s, vk, vp] 81)))
  clear hS
  go_enter Tryz.func126, Tryz.ntmps126
  go_wp2_with fail
  go_at_call 204
  refine (unhide HF).mono ?_
  rintro e w' ⟨rfl, hq⟩
  have HQ := hide hq
  clear hq
  go_wp2
  go_ret
  exact ⟨rfl, unhide HQ⟩

end Go.Proofs.YthbmmbgkchiajaaGreat
