
/- noted: a record read; the state told. -/
import Derived.Test.YthbmmbgkchiajaaGreatQNoted
import Derived.Test.YthbmmbgkchiajaaGreatQKeeps
namespace Go.Proofs.YthbmmbgkchiajaaGreat
open Go.RowKit

/-- A list that came out: nil, or in a block from B on, with all its room. -/
def OutV (B : Nat) (w : World) (ao : Option Addr) (n cap : Nat) : Prop := n ≤ cap ∧ cap ≤ maxLen ∧ ((ao = none ∧ n = 0 ∧ cap = 0) ∨ ∃ g off cs e, ao = some ⟨g, off, none⟩ ∧ B ≤ g ∧ w.heap[g]? = some (.cells cs e (0, 0)) ∧ off + cap ≤ cs.size)

/-- What a look at a journal leaves: a list more in the book. -/
def LookPost (T : Nat → Prop) (pw : Nat) (vcs vvs vks v4 v5 v6 : Value) (ls : List Value) (w w' : World) : Prop :=
  ∃ w1 ao nl cap, Keeps (fun _ => False) w w1 ∧ nl ≤ 1000 ∧ OutV w.heap.size w1 ao nl cap ∧ KBG (fun k => T k ∧ k < w.heap.size) pw nl cap ao vcs vvs vks v4 v5 v6 ls w1 w'

theorem look_keeps {T : Nat → Prop} {pw nl cap : Nat} {ao : Option Addr} {vcs vvs vks vb v4 v5 v6 : Value} {ls : List Value} {w w1 : World} (hpw : w.heap[pw]? = some (.cells #[vcs, vvs, vks, vb, v4, v5, v6] 79 (0, 0))) (hrow : Own T w 138 1 vb ls.length ls) (hpT : ¬ T pw) (hN : (ls.length + 4) * 24 ≤ 140737488355328) (hk : Keeps (fun _ => False) w w1) (hnl : nl ≤ 1000) (ho : OutV w.heap.size w1 ao nl cap) :
    Calls Tryz.prog 194 #[.pointer (some ⟨pw, 3, none⟩), .slice ao nl cap] w1 fun e w' => e = .returned (.tuple #[]) ∧ LookPost T pw vcs vvs vks v4 v5 v6 ls w w' := by
  obtain ⟨o1, o2, o3⟩ := ho
  have hpl := lt_of_heap hpw
  refine (keepsBytes_gen (fun k => T k ∧ k < w.heap.size) pw nl cap ao vcs vvs vks vb v4 v5 v6 ls w1 (hk.heap hpw (fun f => f)) ((hrow.mono (fun k l t => ⟨t, l⟩)).keep hk (fun _ _ _ f => f)) (fun t => hpT t.1) hN ?_ o1 o2 hnl).mono fun e w' ⟨e1, e2⟩ => ⟨e1, w1, ao, nl, cap, hk, hnl, ⟨o1, o2, o3⟩, e2⟩
  rcases o3 with o3 | ⟨g, off, cs, e, a1, a2, a3, a4⟩
  · exact .inl o3
  · exact .inr ⟨g, off, cs, e, a1, a3, a4, by omega, fun t => by omega⟩

theorem run_nilBz (W : World) (a : Option Addr) (n c : Nat) : (binOp .eql 138 (.slice a n c) (.slice none 0 0)).run Tryz.prog W = .ok (.bool a.isNone) W := Lib.run_eql_slice_nil W 138 5 a n c 0 0 Tryz.underlying138

attribute [local go_sem ↓] strOf_eq byApp_eq byBuild0_eq
attribute [local go_sem] run_byBuild0

set_option maxRecDepth 100000 in
set_option maxHeartbeats 1600000 in
theorem noted_record (D R T : Nat → Prop) (v pw : Nat) (j : JM) (m : DM) (vcs vvs vks vb v4 v5 v6 : Value) (ls : List Value) (a b c : Int) (s : ByteArray) (vk vp : Value) (w : World) (h : VolA D R w v (.jour j m true)) (hpw : w.heap[pw]? = some (.cells #[vcs, vvs, vks, vb, v4, v5, v6] 79 (0, 0))) (hrow : Own T w 138 1 vb ls.length ls) (hpT : ¬ T pw) (hN : (ls.length + 4) * 24 ≤ 140737488355328) (cap : Nat) (er : Int) (st : ByteArray) (hn40 : st.size ≤ 40)
    (hA : ∀ (D0 : Nat → Prop) (X : World) (pj d : Nat), JUse D0 X pj d j m → Calls Tryz.prog 202 #[.pointer (some ⟨pj, 0, none⟩), .int .i64 b] X fun e X' => ∃ ao, e = .returned (.tuple #[.slice ao st.size cap, .int .i64 er]) ∧ OutV X.heap.size X' ao st.size cap ∧ Bytes (fun _ => True) X' (.slice ao st.size cap) st ∧ Keeps (fun _ => False) X X' ∧ (er ≠ 0 → ao = none))
    (hB : ∀ (R0 : Nat → Prop) (X : World) (rj : Nat), RJ R0 X rj j → Calls Tryz.prog 203 #[.pointer (some ⟨rj, 0, none⟩), .int .i64 b] X fun e X' => e = .returned (.tuple #[.string st, .int .i64 er]) ∧ X' = X) :
    Calls Tryz.prog 126 #[.pointer (some ⟨pw, 0, none⟩), .pointer (some ⟨v, 0, none⟩), opv 12 a b c s vk vp] w fun e w' => e = .returned (.bool true) ∧ LookPost T pw vcs vvs vks v4 v5 v6 ls w w' := by
  obtain ⟨D0, R0, hst⟩ := h.start 12 a b c s vk vp
  obtain ⟨d, r, rj, dirty, vj, hv, hrj0, hu⟩ := hst.vol.1
  obtain ⟨pj, rfl, hju⟩ : ∃ pj, vj = .pointer (some ⟨pj, 0, none⟩) ∧ JUse D0 _ pj d j m := by
    rcases hu with ⟨_, pj, e1, e2⟩ | ⟨e, _⟩
    · exact ⟨pj, e1, e2⟩
    · cases e
  have HKW := hide hst.keeps
  have HST := hide hst
  have HHV := hide hv
  have HRJ := hide hrj0
  have HJU := hide hju
  have hvl := hst.hv
  have hNDv : ¬ D0 v := hst.vol.2.2.1
  have hNRv : ¬ R0 v := hst.vol.2.2.2
  have hDR := hst.vol.2.1
  have hpjD : D0 pj := hju.1.own.1
  have hW0s : w.heap.size < (w.alloc (.cells #[.int .i64 12, .int .i64 a, .int .i64 b, .int .i64 c, .string s, vk, vp] 81)).heap.size := by rw [hst.size]; omega
  have c0 := cell_of_heap (o := 0) hv
  have c3 := cell_of_heap (o := 3) hv
  have c4 := cell_of_heap (o := 4) hv
  simp at c0 c3 c4
  obtain ⟨p0, p1, p2, p3, p4, p5, p6⟩ := hst.ops _ (Keeps.refl _ _)
  clear h hst hv hrj0 hu hju
  have HA := hide hA
  have HB := hide hB
  have HLK := hide (fun w1 ao nl cap (hk : Keeps (fun _ => False) w w1) (hnl : nl ≤ 1000) (ho : OutV w.heap.size w1 ao nl cap) => look_keeps hpw hrow hpT hN hk hnl ho)
  have hpl := lt_of_heap hpw
  clear hA hB hpw hrow
  go_enter Tryz.func126, Tryz.ntmps126
  go_wp2_with fail
  generalize hW0 : w.alloc (.cells #[.int .i64 12, .int .i64 a, .int .i64 b, .int .i64 c, .string s, vk, vp] 81) = W0 at *
  clear hW0
  go_region_held3 (fun w' => w'.cell? ⟨v, 3, none⟩ = some (.pointer (some ⟨pj, 0, none⟩)) ∧ w'.cell? ⟨w.heap.size, 2, none⟩ = some (.int .i64 b)) (first | exact ⟨c3, p2⟩ | exact ⟨d3, q2⟩) ((go_at_call 202; refine (unhide HA D0 W0.drew pj d (unhide HJU)).mono ?_; rintro e w1 ⟨ao1, rfl, hout, hby, hk1', hnn⟩; have hk1 := hk1'.ofDrew; have hv1 := hk1.heap (unhide HHV) (fun f => f); have d3 := cell_of_heap (o := 3) hv1; have d4 := cell_of_heap (o := 4) hv1; simp at d3 d4; obtain ⟨q0, q1, q2, q3, q4, q5, q6⟩ := (unhide HST).ops w1 (hk1.mono (fun k _ q => q.elim)); have HOUT : Hid (OutV W0.heap.size w1 ao1 st.size cap) := hide hout; have HBY := hide hby; have HK1 := hide hk1; have HNN := hide hnn; have HRJ1 := hide ((unhide HRJ).keep hk1 (fun _ _ _ f => f)); have hs1 := hk1.size; clear hout hby hk1 hk1' hv1 hnn))
  clear c0 c3 c4 p0 p1 p2 p3 p4 p5 p6
  go_wp2
  go_region_held3 (fun w' => w'.cell? ⟨v, 4, none⟩ = some (.pointer (some ⟨rj, 0, none⟩)) ∧ w'.cell? ⟨w.heap.size, 2, none⟩ = some (.int .i64 b)) (exact ⟨d4, q2⟩) ((go_at_call 203; refine (unhide HB R0 w1.drew rj (unhide HRJ1)).mono ?_; rintro e w2 ⟨rfl, rfl⟩))
  have hkx : Keeps (fun _ => False) w1 w1.drew := (Keeps.refl _ w1).drew
  have hstr : (strOf (.slice ao1 st.size cap)).run Tryz.prog w1.drew = .ok (.string st) w1.drew := run_strOf _ _ _ st ((unhide HBY).keep hkx (fun _ _ _ f => f))
  have HKX := hide ((unhide HK1).trans hkx (fun _ _ f => f))
  have hnil0 := fun X => run_nilBz X ao1 st.size cap
  have HOUTX : Hid (OutV w.heap.size w1.drew ao1 st.size cap) := by
    obtain ⟨o1, o2, o3⟩ := unhide HOUT
    refine hide ⟨o1, o2, ?_⟩
    rcases o3 with o3 | ⟨g, off, cs, e, a1, a2, a3, a4⟩
    · exact .inl o3
    · exact .inr ⟨g, off, cs, e, a1, by omega, a3, a4⟩
  generalize w1.drew = X at *
  have HLL := hide (unhide HLK X ao1 st.size cap ((unhide HKW).trans (unhide HKX) (fun _ _ f => f)) (by omega) (unhide HOUTX))
  clear hkx d3 d4 q0 q1 q2 q3 q4 q5 q6
  cases ao1 with
  | none =>
    go_wp2_with fail
    go_at_call 194
    refine (unhide HLL).mono ?_
    rintro e w5 ⟨rfl, hlp⟩
    have HLP := hide hlp
    clear hlp
    go_wp2
    go_ret
    exact ⟨rfl, unhide HLP⟩
  | some aa =>
    have her : er = 0 := by
      rcases Classical.em (er = 0) with h | h
      · exact h
      · have := unhide HNN h; cases this
    subst her
    go_wp2_with fail
    go_at_call 194
    refine (unhide HLL).mono ?_
    rintro e w5 ⟨rfl, hlp⟩
    have HLP := hide hlp
    clear hlp
    go_wp2
    go_ret
    exact ⟨rfl, unhide HLP⟩

end Go.Proofs.YthbmmbgkchiajaaGreat
