
/- noted: the calls on a journal that change it. -/
import Derived.Test.YthbmmbgkchiajaaGreatQCrash
namespace Go.Proofs.YthbmmbgkchiajaaGreat
open Go.RowKit

theorem JUse.syncs {S : Nat → Prop} {w : World} {pj pd : Nat} {j : JM} {m : DM} (h : JUse S w pj pd j m) : w.cell? ⟨pd, 2, none⟩ = some (.int .i64 (m.syncs : Int)) ∧ pd < w.heap.size ∧ S pd := by
  obtain ⟨vd, vq, hbd, hS, _, hqd⟩ := h.1.disk
  exact ⟨cell_of_heap hbd, lt_of_heap hbd, hS⟩
theorem lent_bytes {w : World} {g : Nat} {s : ByteArray} (h : w.heap[g]? = some (.cells (lentArr s 8) 5 (0, 0))) : Bytes (fun k => k = g) w (.slice (some ⟨g, 0, none⟩) s.size (s.size + 8)) s :=
  Bytes.row h rfl rfl (by omega) (fun q hq => by
    rw [Nat.zero_add]
    exact lentArr_lo s q (by rw [bcells_length] at hq; exact hq))

set_option maxRecDepth 100000 in
set_option maxHeartbeats 1600000 in
theorem noted_append (D R : Nat → Prop) (v pw : Nat) (j j' : JM) (m m' : DM) (a b c : Int) (s : ByteArray) (vk vp : Value) (w : World) (h : VolA D R w v (.jour j m true)) (n er : Int) (hs : s.size ≤ 140737488351232)
    (hA : ∀ (D0 T : Nat → Prop) (X : World) (pj d : Nat) (ao : Option Addr) (cap : Nat), JUse D0 X pj d j m → Bytes T X (.slice ao s.size cap) s → Calls Tryz.prog 186 #[.pointer (some ⟨pj, 0, none⟩), .slice ao s.size cap] X fun e X' => e = .returned (.tuple #[.int .i64 n, .int .i64 er]) ∧ JUse (fun k => D0 k ∨ X.heap.size ≤ k) X' pj d j' m' ∧ Keeps D0 X X')
    (hB : ∀ (R0 : Nat → Prop) (X : World) (rj : Nat), RJ R0 X rj j → Calls Tryz.prog 198 #[.pointer (some ⟨rj, 0, none⟩), .string s] X fun e X' => e = .returned (.tuple #[.int .i64 n, .int .i64 er]) ∧ RJ (fun k => R0 k ∨ X.heap.size ≤ k) X' rj j' ∧ Keeps R0 X X')
    (hsy : m'.syncs = m.syncs) (hlen : m'.dur.length = m.dur.length) :
    Calls Tryz.prog 126 #[.pointer (some ⟨pw, 0, none⟩), .pointer (some ⟨v, 0, none⟩), opv 9 a b c s vk vp] w fun e w' => e = .returned (.bool true) ∧ QStep D R w v (.jour j' m' true) w' := by
  obtain ⟨D0, R0, hst⟩ := h.start 9 a b c s vk vp
  obtain ⟨d, r, rj, dirty, vj, hv, hrj0, hu⟩ := hst.vol.1
  obtain ⟨pj, rfl, hju⟩ : ∃ pj, vj = .pointer (some ⟨pj, 0, none⟩) ∧ JUse D0 _ pj d j m := by
    rcases hu with ⟨_, pj, e1, e2⟩ | ⟨e, _⟩
    · exact ⟨pj, e1, e2⟩
    · cases e
  have HKW := hide hst.keeps
  have HST := hide hst
  have HHV := hide hv
  have HRJ := hide hrj0
  have HJU := hide hju
  have hvl := hst.hv
  have hNDv : ¬ D0 v := hst.vol.2.2.1
  have hNRv : ¬ R0 v := hst.vol.2.2.2
  have hDR := hst.vol.2.1
  have hpjD : D0 pj := hju.1.own.1
  have hW0s : w.heap.size < (w.alloc (.cells #[.int .i64 9, .int .i64 a, .int .i64 b, .int .i64 c, .string s, vk, vp] 81)).heap.size := by rw [hst.size]; omega
  have c0 := cell_of_heap (o := 0) hv
  have c3 := cell_of_heap (o := 3) hv
  have c4 := cell_of_heap (o := 4) hv
  simp at c0 c3 c4
  obtain ⟨p0, p1, p2, p3, p4, p5, p6⟩ := hst.ops _ (Keeps.refl _ _)
  clear h hst hv hrj0 hu hju
  have HA := hide hA
  have HB := hide hB
  clear hA hB
  go_enter Tryz.func126, Tryz.ntmps126
  go_wp2_with fail
  generalize hW0 : w.alloc (.cells #[.int .i64 9, .int .i64 a, .int .i64 b, .int .i64 c, .string s, vk, vp] 81) = W0 at *
  clear hW0
  go_at_call 189
  refine (lentBytes_any s W0 (by omega)).mono ?_
  rintro e w1 ⟨rfl, hw1⟩
  have hk01 : Keeps (fun _ => False) W0 w1 := by rw [hw1]; exact (Keeps.refl _ _).alloc _
  have hlent : w1.heap[W0.heap.size]? = some (.cells (lentArr s 8) 5 (0, 0)) := by rw [hw1]; exact heap_alloc_last W0 _
  have HL1 := hide hlent
  have hl1 := lt_of_heap hlent
  have HK01 := hide hk01
  have hv1 := hk01.heap (unhide HHV) (fun f => f)
  have HV1 := hide hv1
  have e0 := cell_of_heap (o := 0) hv1
  have e3 := cell_of_heap (o := 3) hv1
  simp at e0 e3
  have HJ1 := hide ((unhide HJU).keep hk01 (fun _ _ _ f => f))
  obtain ⟨sy1, _, _⟩ := (unhide HJ1).syncs
  rename_i hx1 hx2; clear hx1 hx2
  have hs1 := hk01.size
  clear hw1 hk01 hlent hv1 c0 c3 c4 p0 p1 p2 p3 p4 p5 p6
  go_wp2_with fail
  go_at_call 197
  refine (dSyncs_any d _ w1 sy1).mono ?_
  rintro e w1' ⟨rfl, rfl⟩
  go_wp2_with fail
  go_at_call 186
  refine (unhide HA D0 (fun k => k = W0.heap.size) w1' pj d (some ⟨W0.heap.size, 0, none⟩) (s.size + 8) (unhide HJ1) (lent_bytes (unhide HL1))).mono ?_
  rintro e w2 ⟨rfl, hj2, hk2⟩
  have hk02 := ((unhide HK01).mono (T := D0) (fun _ _ f => f.elim)).trans hk2 (fun _ _ q => q)
  have hv2 := hk02.heap (unhide HHV) hNDv
  have d0 := cell_of_heap (o := 0) hv2
  have d4 := cell_of_heap (o := 4) hv2
  simp at d0 d4
  obtain ⟨sy2, _, _⟩ := hj2.syncs
  rename_i hx1 hx2; clear hx1 hx2
  rw [hsy] at sy2
  have HJ2 := hide hj2
  have HK02 := hide hk02
  have HV2 := hide hv2
  have HL2 := hide (hk2.heap (unhide HL1) (fun q => by have := (unhide HST).hD _ q; omega))
  have hs2 := hk2.size
  obtain ⟨q0, q1, q2, q3, q4, q5, q6⟩ := (unhide HST).ops w2 (hk02.mono (fun k _ q => .inr (.inl q)))
  have HRJ2 := hide ((unhide HRJ).keep hk02 (fun k _ q d => hDR k d q))
  clear hj2 hk2 hk02 hv2 e0 e3 sy1
  go_wp2_with fail
  go_at_call 197
  refine (dSyncs_any d _ w2 sy2).mono ?_
  rintro e w2' ⟨rfl, rfl⟩
  go_wp2_with fail
  go_region_held3 (fun w' => w'.cell? ⟨v, 4, none⟩ = some (.pointer (some ⟨rj, 0, none⟩)) ∧ w'.cell? ⟨w.heap.size, 4, none⟩ = some (.string s)) (first | exact ⟨d4, q4⟩ | exact ⟨f4, g4⟩) ((go_at_call 198; refine (unhide HB R0 w2'.drew rj (unhide HRJ2)).mono ?_; rintro e w3 ⟨rfl, hrj3, hk3'⟩; have hk3 := hk3'.ofDrew; have hv3 := hk3.heap (unhide HV2) hNRv; have f4 := cell_of_heap (o := 4) hv3; simp at f4; have g4 : w3.cell? ⟨w.heap.size, 4, none⟩ = some (.string s) := (hk3.cell (p := ⟨w.heap.size, 4, none⟩) (by exact Nat.lt_of_lt_of_le hW0s (Nat.le_trans hs1 hs2)) (fun q => Nat.lt_irrefl _ ((unhide HST).hR _ q).2)).trans q4; have HRJ3 := hide hrj3; have HK3 := hide hk3; have HV3 := hide hv3; have HL3 := hide (hk3.heap (unhide HL2) (fun q => by have := (unhide HST).hR _ q; omega)); have hs3 := hk3.size; clear hrj3 hk3 hk3' hv3))
  go_wp2_with fail
  go_at_call 192
  refine (wholeBytes_any s W0.heap.size w3 (by omega) (unhide HL3)).mono ?_
  rintro e w4 ⟨rfl, hk4⟩
  have HK4 := hide hk4
  clear hk4
  go_wp2
  go_ret
  have hds : w2'.drew.heap.size = w2'.heap.size := rfl
  have hv4 := (unhide HK4).heap (unhide HV3) (by omega)
  refine ⟨ret_bool (by simp), ⟨fun k => D0 k ∨ (w1'.heap.size ≤ k ∧ k < w2'.heap.size), fun k => R0 k ∨ w2'.heap.size ≤ k, ⟨⟨d, r, rj, dirty, _, by rw [hlen]; exact hv4, ?_, .inl ⟨rfl, pj, rfl, ?_⟩⟩, fun k d d' => ?_, ?_, ?_⟩, fun k hk => ⟨fun d => ?_, fun d => ?_⟩⟩, ?_⟩
  · exact (unhide HRJ3).keep (unhide HK4) (fun k _ q e => by rcases q with q | q; (have := (unhide HST).hR k q; omega); (have q' : w2'.drew.heap.size ≤ k := q; omega))
  · exact ((((unhide HJ2).mono (fun k l d => by rcases d with d | d; (exact .inl d); (exact .inr ⟨d, l⟩))).keep (unhide HK3) (fun k _ d q => by rcases d with d | d; (exact hDR k d q); (have := (unhide HST).hR k q; omega))).keep (unhide HK4) (fun k _ d e => by rcases d with d | d; (have := (unhide HST).hD k d; omega); omega))
  · rcases d with d | d
    · rcases d' with d' | d'
      · exact hDR k d d'
      · have := (unhide HST).hD k d; omega
    · rcases d' with d' | d'
      · have := (unhide HST).hR k d'; omega
      · omega
  · rintro (d | d)
    · exact hNDv d
    · omega
  · rintro (d | d)
    · exact hNRv d
    · omega
  · rcases d with d | d
    · exact ((unhide HST).hD k d).1
    · omega
  · rcases d with d | d
    · exact ((unhide HST).hR k d).1
    · omega
  · exact (((((unhide HKW).mono (T := fun k => k = v ∨ D k ∨ R k) (fun _ _ f => f.elim)).trans (unhide HK02) (fun k _ q => .inr (.inl ((unhide HST).hD k q).1))).trans (unhide HK3) (fun k _ q => .inr (.inr ((unhide HST).hR k q).1))).trans (unhide HK4) (fun k hk e => by omega))

set_option maxRecDepth 100000 in
set_option maxHeartbeats 1600000 in
theorem noted_trunc (D R : Nat → Prop) (v pw : Nat) (j j' : JM) (m m' : DM) (a b c : Int) (s : ByteArray) (vk vp : Value) (w : World) (h : VolA D R w v (.jour j m true)) (er : Int) (hs : s.size ≤ 140737488351232)
    (hA : ∀ (D0 T : Nat → Prop) (X : World) (pj d : Nat) (ao : Option Addr) (cap : Nat), JUse D0 X pj d j m → Bytes T X (.slice ao s.size cap) s → ¬ T pj → Calls Tryz.prog 200 #[.pointer (some ⟨pj, 0, none⟩), .int .i64 b, .slice ao s.size cap] X fun e X' => e = .returned (.int .i64 er) ∧ JUse (fun k => D0 k ∨ X.heap.size ≤ k) X' pj d j' m' ∧ Keeps D0 X X')
    (hB : ∀ (R0 : Nat → Prop) (X : World) (rj : Nat), RJ R0 X rj j → Calls Tryz.prog 201 #[.pointer (some ⟨rj, 0, none⟩), .int .i64 b, .string s] X fun e X' => e = .returned (.int .i64 er) ∧ RJ (fun k => R0 k ∨ X.heap.size ≤ k) X' rj j' ∧ Keeps R0 X X')
    (hlen : m'.dur.length = m.dur.length) :
    Calls Tryz.prog 126 #[.pointer (some ⟨pw, 0, none⟩), .pointer (some ⟨v, 0, none⟩), opv 11 a b c s vk vp] w fun e w' => e = .returned (.bool true) ∧ QStep D R w v (.jour j' m' true) w' := by
  obtain ⟨D0, R0, hst⟩ := h.start 11 a b c s vk vp
  obtain ⟨d, r, rj, dirty, vj, hv, hrj0, hu⟩ := hst.vol.1
  obtain ⟨pj, rfl, hju⟩ : ∃ pj, vj = .pointer (some ⟨pj, 0, none⟩) ∧ JUse D0 _ pj d j m := by
    rcases hu with ⟨_, pj, e1, e2⟩ | ⟨e, _⟩
    · exact ⟨pj, e1, e2⟩
    · cases e
  have HKW := hide hst.keeps
  have HST := hide hst
  have HHV := hide hv
  have HRJ := hide hrj0
  have HJU := hide hju
  have hvl := hst.hv
  have hNDv : ¬ D0 v := hst.vol.2.2.1
  have hNRv : ¬ R0 v := hst.vol.2.2.2
  have hDR := hst.vol.2.1
  have hpjD : D0 pj := hju.1.own.1
  have hW0s : w.heap.size < (w.alloc (.cells #[.int .i64 11, .int .i64 a, .int .i64 b, .int .i64 c, .string s, vk, vp] 81)).heap.size := by rw [hst.size]; omega
  have c0 := cell_of_heap (o := 0) hv
  have c3 := cell_of_heap (o := 3) hv
  have c4 := cell_of_heap (o := 4) hv
  simp at c0 c3 c4
  obtain ⟨p0, p1, p2, p3, p4, p5, p6⟩ := hst.ops _ (Keeps.refl _ _)
  clear h hst hv hrj0 hu hju
  have HA := hide hA
  have HB := hide hB
  clear hA hB
  go_enter Tryz.func126, Tryz.ntmps126
  go_wp2_with fail
  generalize hW0 : w.alloc (.cells #[.int .i64 11, .int .i64 a, .int .i64 b, .int .i64 c, .string s, vk, vp] 81) = W0 at *
  clear hW0
  go_at_call 189
  refine (lentBytes_any s W0 (by omega)).mono ?_
  rintro e w1' ⟨rfl, hw1⟩
  have hk01 : Keeps (fun _ => False) W0 w1' := by rw [hw1]; exact (Keeps.refl _ _).alloc _
  have hlent : w1'.heap[W0.heap.size]? = some (.cells (lentArr s 8) 5 (0, 0)) := by rw [hw1]; exact heap_alloc_last W0 _
  have HL1 := hide hlent
  have hl1 := lt_of_heap hlent
  have HK01 := hide hk01
  have hv1 := hk01.heap (unhide HHV) (fun f => f)
  have e3 := cell_of_heap (o := 3) hv1
  simp at e3
  have HJ1 := hide ((unhide HJU).keep hk01 (fun _ _ _ f => f))
  have hs1 := hk01.size
  obtain ⟨r0, r1, r2, r3, r4, r5, r6⟩ := (unhide HST).ops w1' (hk01.mono (fun k _ q => q.elim))
  have HV1 := hide hv1
  clear hw1 hk01 hlent hv1 c0 c3 c4 p0 p1 p2 p3 p4 p5 p6
  have hpjn : pj ≠ W0.heap.size := by have := (unhide HST).hD _ hpjD; omega
  go_wp2_with fail
  go_region_held3 (fun w' => w'.cell? ⟨v, 3, none⟩ = some (.pointer (some ⟨pj, 0, none⟩)) ∧ w'.cell? ⟨w.heap.size, 2, none⟩ = some (.int .i64 b)) (first | exact ⟨e3, r2⟩ | exact ⟨d3, q2⟩) ((go_at_call 200; refine (unhide HA D0 (fun k => k = W0.heap.size) w1'.drew pj d (some ⟨W0.heap.size, 0, none⟩) (s.size + 8) (unhide HJ1) (lent_bytes (unhide HL1)) hpjn).mono ?_; rintro e w2' ⟨rfl, hj2, hk2'⟩; have hk2 := hk2'.ofDrew; have hk02 := ((unhide HK01).mono (T := D0) (fun _ _ f => f.elim)).trans hk2 (fun _ _ q => q); have hv2 := hk02.heap (unhide HHV) hNDv; have d3 := cell_of_heap (o := 3) hv2; have d4 := cell_of_heap (o := 4) hv2; simp at d3 d4; have HJ2 := hide hj2; have HK02 := hide hk02; have HV2 := hide hv2; have HL2 := hide (hk2.heap (unhide HL1) (fun q => by have := (unhide HST).hD _ q; omega)); have hs2 := hk2.size; obtain ⟨q0, q1, q2, q3, q4, q5, q6⟩ := (unhide HST).ops w2' (hk02.mono (fun k _ q => .inr (.inl q))); have HRJ2 := hide ((unhide HRJ).keep hk02 (fun k _ q d => hDR k d q)); clear hj2 hk2 hk2' hk02 hv2))
  clear e3 r0 r1 r2 r3 r4 r5 r6
  go_wp2
  go_region_held3 (fun w' => w'.cell? ⟨v, 4, none⟩ = some (.pointer (some ⟨rj, 0, none⟩)) ∧ w'.cell? ⟨w.heap.size, 2, none⟩ = some (.int .i64 b) ∧ w'.cell? ⟨w.heap.size, 4, none⟩ = some (.string s)) (first | exact ⟨d4, q2, q4⟩ | exact ⟨f4, g2, g4⟩) ((go_at_call 201; refine (unhide HB R0 w2'.drew rj (unhide HRJ2)).mono ?_; rintro e w3 ⟨rfl, hrj3, hk3'⟩; have hk3 := hk3'.ofDrew; have hv3 := hk3.heap (unhide HV2) hNRv; have f4 := cell_of_heap (o := 4) hv3; simp at f4; have hcl : ∀ o u, w2'.cell? ⟨w.heap.size, o, none⟩ = some u → w3.cell? ⟨w.heap.size, o, none⟩ = some u := fun o u hu => (hk3.cell (p := ⟨w.heap.size, o, none⟩) (by exact Nat.lt_of_lt_of_le hW0s (Nat.le_trans hs1 hs2)) (fun q => Nat.lt_irrefl _ ((unhide HST).hR _ q).2)).trans hu; have g4 := hcl _ _ q4; have g2 := hcl _ _ q2; have HRJ3 := hide hrj3; have HK3 := hide hk3; have HV3 := hide hv3; have HL3 := hide (hk3.heap (unhide HL2) (fun q => by have := (unhide HST).hR _ q; omega)); have hs3 := hk3.size; clear hrj3 hk3 hk3' hv3 hcl))
  go_wp2_with fail
  go_at_call 192
  refine (wholeBytes_any s W0.heap.size w3 (by omega) (unhide HL3)).mono ?_
  rintro e w4 ⟨rfl, hk4⟩
  have HK4 := hide hk4
  clear hk4
  go_wp2
  go_ret
  have hds : w2'.drew.heap.size = w2'.heap.size := rfl
  have hds1 : w1'.drew.heap.size = w1'.heap.size := rfl
  have hv4 := (unhide HK4).heap (unhide HV3) (by omega)
  refine ⟨ret_bool (by simp), ⟨fun k => D0 k ∨ (w1'.heap.size ≤ k ∧ k < w2'.heap.size), fun k => R0 k ∨ w2'.heap.size ≤ k, ⟨⟨d, r, rj, dirty, _, by rw [hlen]; exact hv4, ?_, .inl ⟨rfl, pj, rfl, ?_⟩⟩, fun k d d' => ?_, ?_, ?_⟩, fun k hk => ⟨fun d => ?_, fun d => ?_⟩⟩, ?_⟩
  · exact (unhide HRJ3).keep (unhide HK4) (fun k _ q e => by rcases q with q | q; (have := (unhide HST).hR k q; omega); (have q' : w2'.drew.heap.size ≤ k := q; omega))
  · exact ((((unhide HJ2).mono (fun k l d => by rcases d with d | d; (exact .inl d); (exact .inr ⟨d, l⟩))).keep (unhide HK3) (fun k _ d q => by rcases d with d | d; (exact hDR k d q); (have := (unhide HST).hR k q; omega))).keep (unhide HK4) (fun k _ d e => by rcases d with d | d; (have := (unhide HST).hD k d; omega); omega))
  · rcases d with d | d
    · rcases d' with d' | d'
      · exact hDR k d d'
      · have := (unhide HST).hD k d; omega
    · rcases d' with d' | d'
      · have := (unhide HST).hR k d'; omega
      · omega
  · rintro (d | d)
    · exact hNDv d
    · omega
  · rintro (d | d)
    · exact hNRv d
    · omega
  · rcases d with d | d
    · exact ((unhide HST).hD k d).1
    · omega
  · rcases d with d | d
    · exact ((unhide HST).hR k d).1
    · omega
  · exact (((((unhide HKW).mono (T := fun k => k = v ∨ D k ∨ R k) (fun _ _ f => f.elim)).trans (unhide HK02) (fun k _ q => .inr (.inl ((unhide HST).hD k q).1))).trans (unhide HK3) (fun k _ q => .inr (.inr ((unhide HST).hR k q).1))).trans (unhide HK4) (fun k hk e => by omega))

set_option maxRecDepth 100000 in
set_option maxHeartbeats 1600000 in
theorem forced_gen (D R : Nat → Prop) (v _pw : Nat) (j j' : JM) (m m' : DM) (a b c : Int) (s : ByteArray) (vk vp : Value) (w : World) (h : VolA D R w v (.jour j m true)) (sy : Bool) (er : Int)
    (hA : ∀ (D0 : Nat → Prop) (X : World) (pj d : Nat), JUse D0 X pj d j m → Calls Tryz.prog 187 #[.pointer (some ⟨pj, 0, none⟩), .int .i64 b] X fun e X' => e = .returned (.int .i64 er) ∧ JUse D0 X' pj d j' m' ∧ Keeps D0 X X')
    (hB : ∀ (R0 : Nat → Prop) (X : World) (rj : Nat), RJ R0 X rj j → Calls Tryz.prog 260 #[.pointer (some ⟨rj, 0, none⟩), .int .i64 b] X fun e X' => e = .returned (.tuple #[.bool sy, .int .i64 er]) ∧ RJ R0 X' rj j' ∧ Keeps R0 X X')
    (hsy : m'.syncs = m.syncs + (if sy then 1 else 0)) (hsl : m.syncs < 9223372036854775807) (hlen : m'.dur.length = m.dur.length) :
    Calls Tryz.prog 199 #[.pointer (some ⟨v, 0, none⟩), opv 10 a b c s vk vp] w fun e w' => e = .returned (.bool true) ∧ QStep D R w v (.jour j' m' true) w' := by
  obtain ⟨D0, R0, hst⟩ := h.start 10 a b c s vk vp
  obtain ⟨d, r, rj, dirty, vj, hv, hrj0, hu⟩ := hst.vol.1
  obtain ⟨pj, rfl, hju⟩ : ∃ pj, vj = .pointer (some ⟨pj, 0, none⟩) ∧ JUse D0 _ pj d j m := by
    rcases hu with ⟨_, pj, e1, e2⟩ | ⟨e, _⟩
    · exact ⟨pj, e1, e2⟩
    · cases e
  have HKW := hide hst.keeps
  have HST := hide hst
  have HHV := hide hv
  have HRJ := hide hrj0
  have HJU := hide hju
  have hvl := hst.hv
  have hNDv : ¬ D0 v := hst.vol.2.2.1
  have hNRv : ¬ R0 v := hst.vol.2.2.2
  have hDR := hst.vol.2.1
  have hpjD : D0 pj := hju.1.own.1
  have hW0s : w.heap.size < (w.alloc (.cells #[.int .i64 10, .int .i64 a, .int .i64 b, .int .i64 c, .string s, vk, vp] 81)).heap.size := by rw [hst.size]; omega
  have c0 := cell_of_heap (o := 0) hv
  have c3 := cell_of_heap (o := 3) hv
  have c4 := cell_of_heap (o := 4) hv
  simp at c0 c3 c4
  obtain ⟨p0, p1, p2, p3, p4, p5, p6⟩ := hst.ops _ (Keeps.refl _ _)
  clear h hst hv hrj0 hu hju
  have HA := hide hA
  have HB := hide hB
  clear hA hB
  obtain ⟨sy1, _, _⟩ := (unhide HJU).syncs
  rename_i hx1 hx2; clear hx1 hx2
  go_enter Tryz.func199, Tryz.ntmps199
  go_wp2_with fail
  generalize hW0 : w.alloc (.cells #[.int .i64 10, .int .i64 a, .int .i64 b, .int .i64 c, .string s, vk, vp] 81) = W0 at *
  clear hW0
  go_at_call 197
  refine (dSyncs_any d _ W0 sy1).mono ?_
  rintro e w1 ⟨rfl, rfl⟩
  go_wp2
  go_region_held3 (fun w' => w'.cell? ⟨v, 3, none⟩ = some (.pointer (some ⟨pj, 0, none⟩)) ∧ w'.cell? ⟨w.heap.size, 2, none⟩ = some (.int .i64 b)) (first | exact ⟨c3, p2⟩ | exact ⟨d3, q2⟩) ((go_at_call 187; refine (unhide HA D0 w1.drew pj d (unhide HJU)).mono ?_; rintro e w2 ⟨rfl, hj2, hk2'⟩; have hk2 := hk2'.ofDrew; have hv2 := hk2.heap (unhide HHV) hNDv; have d0 := cell_of_heap (o := 0) hv2; have d3 := cell_of_heap (o := 3) hv2; have d4 := cell_of_heap (o := 4) hv2; simp at d0 d3 d4; obtain ⟨sy2, _, _⟩ := hj2.syncs; have HJ2 := hide hj2; have HK2 := hide hk2; have HV2 := hide hv2; have hs2 := hk2.size; obtain ⟨q0, q1, q2, q3, q4, q5, q6⟩ := (unhide HST).ops w2 (hk2.mono (fun k _ q => .inr (.inl q))); have HRJ2 := hide ((unhide HRJ).keep hk2 (fun k _ q d => hDR k d q)); clear hj2 hk2 hk2' hv2))
  rename_i hx1 hx2; clear hx1 hx2
  clear c0 c3 c4 p0 p1 p2 p3 p4 p5 p6 sy1
  have HSY := hide hsy
  clear hsy
  go_wp2_with fail
  go_at_call 197
  refine (dSyncs_any d _ w2 sy2).mono ?_
  rintro e w2' ⟨rfl, rfl⟩
  go_wp2
  go_region_held3 (fun w' => w'.cell? ⟨v, 4, none⟩ = some (.pointer (some ⟨rj, 0, none⟩)) ∧ w'.cell? ⟨w.heap.size, 2, none⟩ = some (.int .i64 b)) (first | exact ⟨d4, q2⟩ | exact ⟨f4, g2⟩) ((go_at_call 260; refine (unhide HB R0 w2'.drew rj (unhide HRJ2)).mono ?_; rintro e w3 ⟨rfl, hrj3, hk3'⟩; have hk3 := hk3'.ofDrew; have hv3 := hk3.heap (unhide HV2) hNRv; have f4 := cell_of_heap (o := 4) hv3; simp at f4; have g2 : w3.cell? ⟨w.heap.size, 2, none⟩ = some (.int .i64 b) := (hk3.cell (p := ⟨w.heap.size, 2, none⟩) (by exact Nat.lt_of_lt_of_le hW0s hs2) (fun q => Nat.lt_irrefl _ ((unhide HST).hR _ q).2)).trans q2; have HRJ3 := hide hrj3; have HK3 := hide hk3; have HV3 := hide hv3; clear hrj3 hk3 hk3' hv3))
  have hend : QStep D R w v (.jour j' m' true) w3 := by
    refine ⟨⟨D0, R0, ⟨⟨d, r, rj, dirty, _, by rw [hlen]; exact unhide HV3, unhide HRJ3, .inl ⟨rfl, pj, rfl, (unhide HJ2).keep (unhide HK3) (fun k _ d q => hDR k d q)⟩⟩, hDR, hNDv, hNRv⟩, fun k hk => ⟨fun d => ((unhide HST).hD k d).1, fun d => ((unhide HST).hR k d).1⟩⟩, ?_⟩
    exact (((unhide HKW).mono (T := fun k => k = v ∨ D k ∨ R k) (fun _ _ f => f.elim)).trans (unhide HK2) (fun k _ q => .inr (.inl ((unhide HST).hD k q).1))).trans (unhide HK3) (fun k _ q => .inr (.inr ((unhide HST).hR k q).1))
  have HEND := hide hend
  clear hend
  cases sy with
  | true =>
    have h1 : m'.syncs = m.syncs + 1 := unhide HSY
    have h2 : ((m'.syncs : Int) == (m.syncs : Int) + 1) = true := by rw [beq_iff_eq]; omega
    have H1 := hide h1
    clear h1
    go_wp2
    go_ret
    exact ⟨ret_bool (by first | rfl | (have := unhide H1; simp; omega)), unhide HEND⟩
  | false =>
    have h1 : m'.syncs = m.syncs := unhide HSY
    have h2 : ((m'.syncs : Int) == (m.syncs : Int)) = true := by rw [beq_iff_eq]; omega
    have H1 := hide h1
    clear h1
    go_wp2
    go_ret
    exact ⟨ret_bool (by first | rfl | (have := unhide H1; simp; omega)), unhide HEND⟩

set_option maxRecDepth 100000 in
set_option maxHeartbeats 1600000 in
theorem noted_force (D R : Nat → Prop) (v pw : Nat) (x' : VM) (a b c : Int) (s : ByteArray) (vk vp : Value) (w : World) (hvp : ∃ a n c, vp = .slice a n c) (hvk : ∃ a n c, vk = .slice a n c)
    (hF : ∀ X, Keeps (fun _ => False) w X → Calls Tryz.prog 199 #[.pointer (some ⟨v, 0, none⟩), opv 10 a b c s vk vp] X fun e w' => e = .returned (.bool true) ∧ QStep D R w v x' w') :
    Calls Tryz.prog 126 #[.pointer (some ⟨pw, 0, none⟩), .pointer (some ⟨v, 0, none⟩), opv 10 a b c s vk vp] w fun e w' => e = .returned (.bool true) ∧ QStep D R w v x' w' := by
  obtain ⟨ap, np, cp, rfl⟩ := hvp
  obtain ⟨ak, nk, ck, rfl⟩ := hvk
  have HF := hide (hF _ ((Keeps.refl _ w).alloc (.cells #[.int .i64 10, .int .i64 a, .int .i64 b, .int .i64 c, .string s, .slice ak nk ck, .slice ap np cp] 81)))
  clear hF
  go_enter Tryz.func126, Tryz.ntmps126
  go_wp2_with fail
  go_at_call 199
  refine (unhide HF).mono ?_
  rintro e w' ⟨rfl, hq⟩
  have HQ := hide hq
  clear hq
  go_wp2
  go_ret
  exact ⟨rfl, unhide HQ⟩

end Go.Proofs.YthbmmbgkchiajaaGreat
