
/- crashed, of a disk with a journal. -/
import Derived.Test.YthbmmbgkchiajaaGreatQVol
namespace Go.Proofs.YthbmmbgkchiajaaGreat
open Go.RowKit

theorem runOf_zero (bs : List Bool) : runOf bs 0 = 0 := by unfold runOf; rfl
theorem crash_self (j : JM) (bs : List Bool) (h : j.safe = j.L.length) : j.crash bs = j := by
  unfold JM.crash
  rw [h, Nat.sub_self, runOf_zero, Nat.add_zero, List.take_length]
  obtain ⟨a, b, L, l, s, e, n⟩ := j
  simp only at h
  subst h
  rfl
theorem crash_len (j : JM) (bs : List Bool) (h : j.safe ≤ j.L.length) : (j.crash bs).safe = (j.crash bs).L.length := by
  have hr := runOf_le bs (j.L.length - j.safe)
  show j.safe + _ = (j.L.take _).length
  rw [List.length_take]; omega
theorem DM.lose_ok {m : DM} (hm : m.ok) (bs : List Bool) : (m.lose bs).ok := ⟨by simpa [DM.lose, durTo_length] using hm.len, durTo_size _ _ _ (fun q hq => hm.dur q hq) (fun x hx => (hm.puts x hx).2) _, by simp [DM.lose]⟩

theorem crash_safe {D R : Nat → Prop} {w : World} {v : Nat} {j : JM} {m : DM} {use : Bool} (h : VolS D R w v (.jour j m use)) : j.safe ≤ j.L.length := by
  obtain ⟨d, r, rj, dirty, vj, h1, h2, h3⟩ := h
  rcases h3 with ⟨e, pj, rfl, e2⟩ | ⟨e, rfl, e2, e3, e4, e5, e6⟩
  · exact e2.2.1.safe.2
  · exact Nat.le_of_eq e6
theorem crash_facts {D R : Nat → Prop} {w : World} {v : Nat} {j : JM} {m : DM} {use : Bool} (h : VolS D R w v (.jour j m use)) (bs : List Bool) : Found (j.crash bs) (m.lose bs) ∧ True ∧ (m.lose bs).ok ∧ (j.crash bs).safe = (j.crash bs).L.length := by
  have hs := crash_safe h
  obtain ⟨d, r, rj, dirty, vj, h1, h2, h3⟩ := h
  rcases h3 with ⟨e, pj, rfl, e2⟩ | ⟨e, rfl, e2, e3, e4, e5, e6⟩
  · exact ⟨e2.2.1.crash bs, trivial, DM.lose_ok e2.2.2 bs, crash_len j bs hs⟩
  · refine ⟨?_, trivial, DM.lose_ok e5 bs, crash_len j bs hs⟩
    rw [crash_self j bs e6, m.lose_nil e4]; exact e3

set_option maxRecDepth 100000 in
set_option maxHeartbeats 1600000 in
theorem crashedJ_nil (D R : Nat → Prop) (v : Nat) (j : JM) (m : DM) (use : Bool) (a b c : Int) (s : ByteArray) (vp : Value) (w : World) (h : VolA D R w v (.jour j m use)) :
    Calls Tryz.prog 121 #[.pointer (some ⟨v, 0, none⟩), opv 6 a b c s (.slice none 0 0) vp] w fun e w' => e = .returned (.bool true) ∧ QStep D R w v (.jour (j.crash []) (m.lose []) false) w' := by
  obtain ⟨bs, hbs0⟩ : ∃ bs : List Bool, bs = [] := ⟨_, rfl⟩
  rw [← hbs0]
  have hbl : bs.length = 0 := by rw [hbs0]; rfl
  have HV := hide h
  obtain ⟨D0, R0, hst⟩ := h.start 6 a b c s (.slice none 0 0) vp
  obtain ⟨d, r, rj, dirty, vj, hv, hrj0, hd, hF, hok, hN⟩ := hst.vol.1.jdisk
  have HKW := hide hst.keeps
  have HST := hide hst
  have HHV := hide hv
  have HRJ := hide hrj0
  have HD := hide hd
  have HOK := hide hok
  have HN := hide (seven_le0 _ _ hN)
  have hvl := hst.hv
  have hNDv : ¬ D0 v := hst.vol.2.2.1
  have hNRv : ¬ R0 v := hst.vol.2.2.2
  have hDR := hst.vol.2.1
  have hW0s : w.heap.size < (w.alloc (.cells #[.int .i64 6, .int .i64 a, .int .i64 b, .int .i64 c, .string s, .slice none 0 0, vp] 81)).heap.size := by rw [hst.size]; omega
  have HCR := hide (crash_facts h.1 bs)
  have hjs : j.safe ≤ j.L.length := crash_safe h.1
  have hjl : j.L.length < 4611686018427387904 := by have := hF.ok.few; omega
  have c0 := cell_of_heap (o := 0) hv
  simp at c0
  obtain ⟨p0, p1, p2, p3, p4, p5, p6⟩ := hst.ops _ (Keeps.refl _ _)
  clear h hst hv hrj0 hd hF hok hN
  go_enter Tryz.func121, Tryz.ntmps121
  go_wp2_with fail
  generalize hW0 : w.alloc (.cells #[.int .i64 6, .int .i64 a, .int .i64 b, .int .i64 c, .string s, .slice none 0 0, vp] 81) = W0 at *
  clear hW0
  go_at_call 144
  refine (lentBools_nil W0).mono ?_
  rintro e w1 ⟨rfl, rfl⟩
  have hk01 : Keeps (fun _ => False) w1 w1 := Keeps.refl _ _
  have HKEEP : Hid (Keep D0 w1 none bs) := hide (fun q hq => by omega)
  have hv1 := hk01.heap (unhide HHV) (fun f => f)
  have e0 := cell_of_heap (o := 0) hv1
  simp at e0
  have HV1 := hide hv1
  have HK01 := hide hk01
  have HD1 := hide (Two.keep (unhide HD) hk01 (fun _ _ _ f => f))
  have hs1 := hk01.size
  obtain ⟨r0, r1, r2, r3, r4, r5, r6⟩ := (unhide HST).ops w1 (hk01.mono (fun k _ q => q.elim))
  clear hv1 hk01 p0 p1 p2 p3 p4 p5 p6 c0
  go_wp2_with fail
  go_at_call 177
  have HDC := hide (dCrash_any D0 d m none 0 bs w1 (unhide HD1) (unhide HOK) (unhide HN) (unhide HKEEP) (by omega) (by omega))
  rw [hbl] at HDC
  refine (unhide HDC).mono ?_
  rintro e w2 ⟨rfl, hd2, hk2⟩
  have HD2 : Hid (PDisk D0 w2 d (m.lose bs)) := hide hd2
  have hv2 := hk2.heap (unhide HV1) hNDv
  have HV2 := hide hv2
  have HK2 := hide hk2
  have hs2 := hk2.size
  obtain ⟨s0, s1, s2, s3, s4, s5, s6⟩ := (unhide HST).ops w2 (((unhide HK01).mono (T := fun k => k = v ∨ D0 k ∨ R0 k) (fun k _ q => q.elim)).trans hk2 (fun k _ q => .inr (.inl q)))
  clear hd2 hk2 hv2 r0 r1 r2 r3 r4 r5 r6 e0
  go_wp2_with fail
  go_at_call 146
  refine (wholeBools_nil _ w2).mono ?_
  rintro e w3 ⟨rfl, rfl⟩
  have hk3 : Keeps (fun k => w.heap.size < k) w3 w3 := Keeps.refl _ _
  have hlw2 : w.heap.size < w3.heap.size := by omega
  have hv3 := hk3.heap (unhide HV2) (by omega)
  have HV3 := hide hv3
  have HK3 := hide hk3
  have hs3 := hk3.size
  have hd3 : PDisk D0 w3 d (m.lose bs) := Two.keep (unhide HD2) hk3 (fun k _ q h => by have := (unhide HST).hD k q; omega)
  have HD3 := hide hd3
  obtain ⟨vd, vq, hbd, _, _, hqd⟩ := id hd3
  obtain ⟨aq, cq, rfl, _⟩ := hqd.len
  have cd1 := cell_of_heap (o := 1) hbd
  simp at cd1
  have e0 := cell_of_heap (o := 0) hv3
  have e4 := cell_of_heap (o := 4) hv3
  simp at e0 e4
  have hob3 : w3.cell? ⟨w.heap.size, 5, none⟩ = some (.slice none 0 0) := (hk3.cell (p := ⟨w.heap.size, 5, none⟩) hlw2 (fun h => Nat.lt_irrefl _ h)).trans s5
  clear hk3 hv3 hd3 hbd hqd s0 s1 s2 s3 s4 s5 s6
  rename_i hx1 hx2; clear hx1 hx2
  go_wp2_with fail
  go_at_call 178
  refine (dPending_any d _ _ _ w3 cd1).mono ?_
  rintro e w3' ⟨rfl, rfl⟩
  have HRJ3 := hide ((((unhide HRJ).keep (unhide HK01) (fun _ _ _ f => f)).keep (unhide HK2) (fun k _ q d => hDR k d q)).keep (unhide HK3) (fun k _ q h => by have := (unhide HST).hR k q; have h' : w.heap.size < k := h; omega))
  have hkeepR : Keep R0 w3' none bs := fun q hq => by omega
  have HKR := hide hkeepR
  clear hkeepR
  go_wp2_with fail
  go_region_held3 (fun w' => w'.cell? ⟨v, 4, none⟩ = some (.pointer (some ⟨rj, 0, none⟩)) ∧ w'.cell? ⟨w.heap.size, 5, none⟩ = some (.slice none 0 0)) (first | exact ⟨e4, hob3⟩ | exact ⟨e6, hob6⟩) ((go_at_call 179; have HRC := hide (rjCrash_any R0 rj 0 j none bs w3'.drew (unhide HRJ3) (unhide HKR) hjs hjl (by omega) (by omega)); rw [hbl] at HRC; refine (unhide HRC).mono ?_; rintro e w6 ⟨rfl, hrj6, hk6'⟩; have hk6 := hk6'.ofDrew; have hv6 := hk6.heap (unhide HV3) hNRv; have e6 := cell_of_heap (o := 4) hv6; have e63 := cell_of_heap (o := 3) hv6; simp at e6 e63; have z3 := frozen_of_heap (o := 3) hv6; have hob6 : w6.cell? ⟨w.heap.size, 5, none⟩ = some (.slice none 0 0) := (hk6.cell (p := ⟨w.heap.size, 5, none⟩) (by exact Nat.lt_of_lt_of_le hlw2 hs3) (fun q => Nat.lt_irrefl _ ((unhide HST).hR _ q).2)).trans hob3; have HRJ6 := hide hrj6; have HK6 := hide hk6; have HV6 := hide hv6; clear hrj6 hk6 hk6' hv6))
  go_wp2
  go_ret
  have hv7 := heap_setCell_same (o := 3) (unhide HV6) (.pointer none)
  have hk7 : Keeps (fun k => k = v) w6 (w6.setCell ⟨v, 3, none⟩ (.pointer none)) := (Keeps.refl (fun k => k = v) w6).setCell (p := ⟨v, 3, none⟩) (.inl rfl) _
  generalize w6.setCell ⟨v, 3, none⟩ (.pointer none) = w7 at *
  obtain ⟨f1, f2, f3, f4⟩ := unhide HCR
  refine ⟨ret_bool (by simp; try rfl), ⟨D0, R0, ⟨⟨d, r, rj, dirty, _, by rw [m.lose_len]; exact hv7, (unhide HRJ6).keep hk7 (fun k _ q e => hNRv (by rw [← e]; exact q)), .inr ⟨rfl, rfl, ?_, f1, rfl, f3, f4⟩⟩, hDR, hNDv, hNRv⟩, fun k hk => ⟨fun d => ((unhide HST).hD k d).1, fun d => ((unhide HST).hR k d).1⟩⟩, ?_⟩
  · exact Two.keep (Two.keep (unhide HD3) (unhide HK6) (fun k _ d q => hDR k d q)) hk7 (fun k _ d e => hNDv (by rw [← e]; exact d))
  · refine (((((unhide HKW).mono (T := fun k => k = v ∨ D k ∨ R k) (fun _ _ f => f.elim)).trans ((unhide HK01)) (fun _ _ f => f.elim)).trans (unhide HK2) (fun k _ q => .inr (.inl ((unhide HST).hD k q).1))).trans (unhide HK3) (fun k hk q => by have q' : w.heap.size < k := q; omega)).trans (unhide HK6) (fun k _ q => .inr (.inr ((unhide HST).hR k q).1)) |>.trans hk7 (fun k _ e => .inl e)

set_option maxRecDepth 100000 in
set_option maxHeartbeats 1600000 in
theorem crashedJ_some (D R : Nat → Prop) (v : Nat) (j : JM) (m : DM) (use : Bool) (a b c : Int) (s : ByteArray) (vp : Value) (w : World) (h : VolA D R w v (.jour j m use)) (B cap : Nat) (ak : Addr) (bs : List Bool) (hDB : ∀ k, D k → B ≤ k) (hRB : ∀ k, R k → B ≤ k) (hvB : B ≤ v) (_hBw : B ≤ w.heap.size) (hbs : bs.length ≤ 140737488351232) (hcap : bs.length ≤ cap) (hr : ∀ j, j < bs.length → ∃ b o, ak = ⟨b, o, none⟩ ∧ b < B ∧ w.cell? ⟨b, o + j, none⟩ = some (.bool (bs.getD j false))) :
    Calls Tryz.prog 121 #[.pointer (some ⟨v, 0, none⟩), opv 6 a b c s (.slice (some ak) bs.length cap) vp] w fun e w' => e = .returned (.bool true) ∧ QStep D R w v (.jour (j.crash bs) (m.lose bs) false) w' := by
  have HR := hide hr
  clear hr
  have HV := hide h
  obtain ⟨D0, R0, hst⟩ := h.start 6 a b c s (.slice (some ak) bs.length cap) vp
  obtain ⟨d, r, rj, dirty, vj, hv, hrj0, hd, hF, hok, hN⟩ := hst.vol.1.jdisk
  have HKW := hide hst.keeps
  have HST := hide hst
  have HHV := hide hv
  have HRJ := hide hrj0
  have HD := hide hd
  have HOK := hide hok
  have HN := hide (seven_le0 _ _ hN)
  have hvl := hst.hv
  have hNDv : ¬ D0 v := hst.vol.2.2.1
  have hNRv : ¬ R0 v := hst.vol.2.2.2
  have hDR := hst.vol.2.1
  have hW0s : w.heap.size < (w.alloc (.cells #[.int .i64 6, .int .i64 a, .int .i64 b, .int .i64 c, .string s, .slice (some ak) bs.length cap, vp] 81)).heap.size := by rw [hst.size]; omega
  have HCR := hide (crash_facts h.1 bs)
  have hjs : j.safe ≤ j.L.length := crash_safe h.1
  have hjl : j.L.length < 4611686018427387904 := by have := hF.ok.few; omega
  have c0 := cell_of_heap (o := 0) hv
  simp at c0
  obtain ⟨p0, p1, p2, p3, p4, p5, p6⟩ := hst.ops _ (Keeps.refl _ _)
  clear h hst hv hrj0 hd hF hok hN
  go_enter Tryz.func121, Tryz.ntmps121
  go_wp2_with fail
  generalize hW0 : w.alloc (.cells #[.int .i64 6, .int .i64 a, .int .i64 b, .int .i64 c, .string s, .slice (some ak) bs.length cap, vp] 81) = W0 at *
  clear hW0
  have hKr : ∀ (Q : Nat → Prop), (∀ k, Q k → B ≤ k) → ∀ X, Keeps (fun k => B ≤ k) w X → ∀ q, q < bs.length → ∃ b o, ak = ⟨b, o, none⟩ ∧ b < X.heap.size ∧ ¬ Q b ∧ b < B ∧ X.cell? ⟨b, o + q, none⟩ = some (.bool (bs.getD q false)) := fun Q hQ X hX q hq => by
    obtain ⟨b', o', rfl, hb1, hb2⟩ := unhide HR q hq
    exact ⟨b', o', rfl, Nat.lt_of_lt_of_le (by omega) hX.size, fun h => by have := hQ b' h; omega, hb1, (hX.cell (p := ⟨b', o' + q, none⟩) (by show b' < _; omega) (fun h => by have h' : B ≤ b' := h; omega)).trans hb2⟩
  have HKr := hide hKr
  clear hKr
  go_at_call 144
  refine (lentBools_some ak cap bs W0 (by omega) (fun q hq => ?_)).mono ?_
  · obtain ⟨b', o', rfl, _, _, _, hb2⟩ := unhide HKr (fun _ => False) (fun _ f => f.elim) W0 ((unhide HKW).mono (fun _ _ f => f.elim)) q hq
    rw [Addr.add_mid]
    exact hb2
  rintro e w1 ⟨rfl, hw1⟩
  have hk01 : Keeps (fun _ => False) W0 w1 := by rw [hw1]; exact (Keeps.refl _ _).alloc _
  have hlent : w1.heap[W0.heap.size]? = some (.cells (lentB bs 8) 4 (0, 0)) := by rw [hw1]; exact heap_alloc_last W0 _
  have HL := hide hlent
  have HKEEP : Hid (Keep D0 w1 (some ⟨W0.heap.size, 0, none⟩) bs) := hide (fun q hq => ⟨W0.heap.size, 0, rfl, lt_of_heap hlent, fun h => by have := (unhide HST).hD _ h; omega, by rw [cell_of_heap hlent, Nat.zero_add]; exact lentB_lo bs q hq⟩)
  clear hlent hw1
  have hv1 := hk01.heap (unhide HHV) (fun f => f)
  have e0 := cell_of_heap (o := 0) hv1
  simp at e0
  have HV1 := hide hv1
  have HK01 := hide hk01
  have HD1 := hide (Two.keep (unhide HD) hk01 (fun _ _ _ f => f))
  have hs1 := hk01.size
  obtain ⟨r0, r1, r2, r3, r4, r5, r6⟩ := (unhide HST).ops w1 (hk01.mono (fun k _ q => q.elim))
  clear hv1 hk01 p0 p1 p2 p3 p4 p5 p6 c0
  go_wp2_with fail
  go_at_call 177
  refine (dCrash_any D0 d m (some ⟨W0.heap.size, 0, none⟩) (bs.length + 8) bs w1 (unhide HD1) (unhide HOK) (unhide HN) (unhide HKEEP) (by omega) (by omega)).mono ?_
  rintro e w2 ⟨rfl, hd2, hk2⟩
  have HD2 : Hid (PDisk D0 w2 d (m.lose bs)) := hide hd2
  have hv2 := hk2.heap (unhide HV1) hNDv
  have HV2 := hide hv2
  have HK2 := hide hk2
  have hs2 := hk2.size
  obtain ⟨s0, s1, s2, s3, s4, s5, s6⟩ := (unhide HST).ops w2 (((unhide HK01).mono (T := fun k => k = v ∨ D0 k ∨ R0 k) (fun k _ q => q.elim)).trans hk2 (fun k _ q => .inr (.inl q)))
  clear hd2 hk2 hv2 r0 r1 r2 r3 r4 r5 r6 e0
  go_wp2_with fail
  go_at_call 146
  have hKw2 : Keeps (fun k => B ≤ k) w w2 := ((((unhide HKW).trans (unhide HK01) (fun _ _ f => f)).mono (T := fun k => B ≤ k) (fun _ _ f => f.elim)).trans (unhide HK2) (fun k _ q => hDB k ((unhide HST).hD k q).1))
  refine (wholeBools_some ak cap W0.heap.size bs w2 (by omega) hcap (fun q hq => ?_) ((unhide HK2).heap (unhide HL) (fun q => by have := (unhide HST).hD _ q; omega))).mono ?_
  · obtain ⟨b', o', e1, _, _, e4, e5⟩ := unhide HKr (fun _ => False) (fun _ f => f.elim) w2 hKw2 q hq
    exact ⟨b', o', e1, by omega, e5⟩
  rintro e w3 ⟨rfl, hk3'⟩
  have hk3 : Keeps (fun k => w.heap.size < k) w2 w3 := hk3'.mono (fun k _ e => by show w.heap.size < k; omega)
  have hlw2 : w.heap.size < w2.heap.size := by omega
  have HKw3 := hide (hKw2.trans hk3 (fun k _ q => by have q' : w.heap.size < k := q; show B ≤ k; omega))
  clear hk3' hKw2
  have hv3 := hk3.heap (unhide HV2) (by omega)
  have HV3 := hide hv3
  have HK3 := hide hk3
  have hs3 := hk3.size
  have hd3 : PDisk D0 w3 d (m.lose bs) := Two.keep (unhide HD2) hk3 (fun k _ q h => by have := (unhide HST).hD k q; omega)
  have HD3 := hide hd3
  obtain ⟨vd, vq, hbd, _, _, hqd⟩ := id hd3
  obtain ⟨aq, cq, rfl, _⟩ := hqd.len
  have cd1 := cell_of_heap (o := 1) hbd
  simp at cd1
  have e0 := cell_of_heap (o := 0) hv3
  have e4 := cell_of_heap (o := 4) hv3
  simp at e0 e4
  have hob3 : w3.cell? ⟨w.heap.size, 5, none⟩ = some (.slice (some ak) bs.length cap) := (hk3.cell (p := ⟨w.heap.size, 5, none⟩) hlw2 (fun h => Nat.lt_irrefl _ h)).trans s5
  clear hk3 hv3 hd3 hbd hqd s0 s1 s2 s3 s4 s5 s6
  rename_i hx1 hx2; clear hx1 hx2
  go_wp2_with fail
  go_at_call 178
  refine (dPending_any d _ _ _ w3 cd1).mono ?_
  rintro e w3' ⟨rfl, rfl⟩
  have HRJ3 := hide ((((unhide HRJ).keep (unhide HK01) (fun _ _ _ f => f)).keep (unhide HK2) (fun k _ q d => hDR k d q)).keep (unhide HK3) (fun k _ q h => by have := (unhide HST).hR k q; have h' : w.heap.size < k := h; omega))
  have hkeepR : Keep R0 w3' (some ak) bs := fun q hq => by obtain ⟨b', o', e1, e2, e3, _, e5⟩ := unhide HKr R0 (fun k q => hRB k ((unhide HST).hR k q).1) w3' (unhide HKw3) q hq; exact ⟨b', o', by rw [e1], e2, e3, e5⟩
  have HKR := hide hkeepR
  clear hkeepR
  go_wp2_with fail
  go_region_held3 (fun w' => w'.cell? ⟨v, 4, none⟩ = some (.pointer (some ⟨rj, 0, none⟩)) ∧ w'.cell? ⟨w.heap.size, 5, none⟩ = some (.slice (some ak) bs.length cap)) (first | exact ⟨e4, hob3⟩ | exact ⟨e6, hob6⟩) ((go_at_call 179; refine (rjCrash_any R0 rj cap j (some ak) bs w3'.drew (unhide HRJ3) (unhide HKR) hjs hjl (by omega) (by omega)).mono ?_; rintro e w6 ⟨rfl, hrj6, hk6'⟩; have hk6 := hk6'.ofDrew; have hv6 := hk6.heap (unhide HV3) hNRv; have e6 := cell_of_heap (o := 4) hv6; have e63 := cell_of_heap (o := 3) hv6; simp at e6 e63; have z3 := frozen_of_heap (o := 3) hv6; have hob6 : w6.cell? ⟨w.heap.size, 5, none⟩ = some (.slice (some ak) bs.length cap) := (hk6.cell (p := ⟨w.heap.size, 5, none⟩) (by exact Nat.lt_of_lt_of_le hlw2 hs3) (fun q => Nat.lt_irrefl _ ((unhide HST).hR _ q).2)).trans hob3; have HRJ6 := hide hrj6; have HK6 := hide hk6; have HV6 := hide hv6; clear hrj6 hk6 hk6' hv6))
  go_wp2
  go_ret
  have hv7 := heap_setCell_same (o := 3) (unhide HV6) (.pointer none)
  have hk7 : Keeps (fun k => k = v) w6 (w6.setCell ⟨v, 3, none⟩ (.pointer none)) := (Keeps.refl (fun k => k = v) w6).setCell (p := ⟨v, 3, none⟩) (.inl rfl) _
  generalize w6.setCell ⟨v, 3, none⟩ (.pointer none) = w7 at *
  obtain ⟨f1, f2, f3, f4⟩ := unhide HCR
  refine ⟨ret_bool (by simp; try rfl), ⟨D0, R0, ⟨⟨d, r, rj, dirty, _, by rw [m.lose_len]; exact hv7, (unhide HRJ6).keep hk7 (fun k _ q e => hNRv (by rw [← e]; exact q)), .inr ⟨rfl, rfl, ?_, f1, rfl, f3, f4⟩⟩, hDR, hNDv, hNRv⟩, fun k hk => ⟨fun d => ((unhide HST).hD k d).1, fun d => ((unhide HST).hR k d).1⟩⟩, ?_⟩
  · exact Two.keep (Two.keep (unhide HD3) (unhide HK6) (fun k _ d q => hDR k d q)) hk7 (fun k _ d e => hNDv (by rw [← e]; exact d))
  · refine (((((unhide HKW).mono (T := fun k => k = v ∨ D k ∨ R k) (fun _ _ f => f.elim)).trans ((unhide HK01)) (fun _ _ f => f.elim)).trans (unhide HK2) (fun k _ q => .inr (.inl ((unhide HST).hD k q).1))).trans (unhide HK3) (fun k hk q => by have q' : w.heap.size < k := q; omega)).trans (unhide HK6) (fun k _ q => .inr (.inr ((unhide HST).hR k q).1)) |>.trans hk7 (fun k _ e => .inl e)

end Go.Proofs.YthbmmbgkchiajaaGreat
