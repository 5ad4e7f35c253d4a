
/- Kept: the loop over the steps. -/
import Derived.Test.YthbmmbgkchiajaaKKept
namespace Go.Proofs.Ythbmmbgkchiajaa
open Go.RowKit

theorem few16 (i n : Nat) (hi : i < n) (hF : n * 56 ≤ 140737488351232) : (i + 1) * 16 ≤ 140737488355328 := by
  have h1 : (i + 1) * 16 ≤ n * 16 := Nat.mul_le_mul_right 16 hi
  have h2 : n * 16 ≤ n * 56 := Nat.mul_le_mul_left n (by omega)
  omega

attribute [local go_sem ↓] mulI_eq

set_option maxRecDepth 100000 in
set_option maxHeartbeats 1600000 in
theorem kept_any (w : World) (ring per : Int) (ao : Option Addr) (n cap : Nat) (hr0 : -9223372036854775808 ≤ ring) (hr1 : ring ≤ 9223372036854775807) (hp0 : -9223372036854775808 ≤ per) (hp1 : per ≤ 9223372036854775807) (_hcap : n ≤ cap) (hF : n * 56 ≤ 140737488351232) (hS : ∀ i, i < n → NoteAt w.heap.size w ao i) :
    Calls Try.prog 3 #[.int .i64 ring, .int .i64 per, .slice ao n cap] w fun e w' => e = .returned (.bool true) ∧ Keeps (fun k => w.heap.size ≤ k) w w' := by
  have hR := pickOf_lt ring 5 (by omega)
  have hP := pickOf_lt per 15 (by omega)
  have c1 := fun W => pick_any ring 5 W hr0 hr1 (by omega) (by omega)
  have c2 := fun W => pick_any per 15 W hp0 hp1 (by omega) (by omega)
  obtain ⟨R, HR⟩ : ∃ R, Hid (R = 2 + pickOf ring 5) := ⟨_, hide rfl⟩
  obtain ⟨P, HP⟩ : ∃ P, Hid (P = 2 + pickOf per 15) := ⟨_, hide rfl⟩
  have hR2 : 2 ≤ R ∧ R ≤ 6 := by rw [unhide HR]; omega
  have hP2 : 2 ≤ P ∧ P ≤ 16 := by rw [unhide HP]; omega
  have eR : 2 + ((pickOf ring 5 : Nat) : Int) = (R : Int) := by rw [unhide HR]; rfl
  have eP : 2 + ((pickOf per 15 : Nat) : Int) = (P : Int) := by rw [unhide HP]; rfl
  have hC : 4 ≤ R * P ∧ R * P ≤ 96 := ⟨Nat.mul_le_mul hR2.1 hP2.1, Nat.mul_le_mul hR2.2 hP2.2⟩
  have hmul := fun W => run_mulI W R P (by omega)
  obtain ⟨C, HC⟩ : ∃ C, Hid (C = R * P) := ⟨_, hide rfl⟩
  rw [← unhide HC] at hmul hC
  have H1 := hide c1
  have H2 := hide c2
  have HER := hide eR
  have HEP := hide eP
  have HS := hide hS
  have hn56 : n ≤ 2513169434843 := by omega
  clear c1 c2 eR eP hS
  generalize pickOf ring 5 = r0 at *
  generalize pickOf per 15 = p0 at *
  go_enter Try.func3, Try.ntmps3
  go_wp2_with fail
  go_at_call 4
  refine (unhide H1 w).mono ?_
  rintro e w1 ⟨rfl, rfl⟩
  go_wp2_with fail
  go_at_call 4
  refine (unhide H2 w1).mono ?_
  rintro e w1 ⟨rfl, rfl⟩
  rw [unhide HER]
  have hmul2 : ∀ W, (mulI (.int .i64 (R : Int)) (.int .i64 (2 + (p0 : Int)))).run Try.prog W = .ok (.int .i64 (C : Int)) W := fun W => by rw [unhide HEP]; exact hmul W
  go_wp2_with fail
  go_at_call 5
  rw [unhide HEP]
  refine (dNew_yes (C + 2) w1 (by omega) (by omega)).mono ?_
  rintro e w2 ⟨pd, rfl, hd2, hk2⟩
  have hlen : (freshDM (C + 2)).dur.length = C + 2 := by simp [freshDM]
  have hok2 := freshDM_ok (C + 2) (by omega) (by omega)
  have hput : (freshDM (C + 2)).puts.length = 0 := rfl
  have hsyn : (freshDM (C + 2)).syncs = 0 := rfl
  have HBR := hide (open_broken (fun k => w1.heap.size ≤ k) pd R P 0 0 0 0 ByteArray.empty ByteArray.empty (freshDM (C + 2)) w2 hd2 hok2 (by rw [hput]; omega) hR2 hP2 (by rw [hlen, ← unhide HC]; omega) (fresh_read _ _ (by omega)) (fresh_read _ _ (by omega)) (by simp) (by omega) (by omega) (shape_ne (by omega) (by omega) (by omega) (by omega) (.inl (by omega)) _ _))
  have HCR := hide (fun W (hW : PDisk (fun k => w1.heap.size ≤ k) W pd (freshDM (C + 2))) => use_create (fun k => w1.heap.size ≤ k) pd R P (freshDM (C + 2)) W hW hok2 (by rw [hput]; omega) (by rw [hsyn]; omega) hR2 hP2 (by rw [hlen, ← unhide HC]; omega))
  have HD2 := hide hd2
  have HK2 := hide hk2
  clear hd2 hk2 hlen hok2 hput hsyn hmul2
  go_wp2_with fail
  go_at_call 6
  refine (unhide HBR).mono ?_
  rintro e w3 ⟨rfl, hk3⟩
  have HD3 := hide (Two.keep (unhide HD2) hk3 (fun _ _ _ f => f))
  have HK3 := hide ((unhide HK2).trans hk3 (fun _ _ f => f))
  clear hk3
  go_wp2_with fail
  go_at_call 7
  refine (unhide HCR w3 (unhide HD3)).mono ?_
  rintro e w4 ⟨pj, rfl, _, hj4, hk4⟩
  have HJ4 := hide hj4
  have HK4 := hide (((unhide HK3).mono (T := fun k => w1.heap.size ≤ k) (fun _ _ f => f.elim)).trans hk4 (fun _ _ h => h))
  clear hj4 hk4
  go_wp2
  have hb5 := heap_alloc_last w4 (.cells #[.slice none 0 0, .int .i64 1, .int .i64 0, .string ⟨#[]⟩] 34)
  have hk5 : Keeps (fun _ => False) w4 (w4.alloc (.cells #[.slice none 0 0, .int .i64 1, .int .i64 0, .string ⟨#[]⟩] 34)) := (Keeps.refl _ _).alloc _
  have s4 := (unhide HK4).size
  have HR0 : Hid (KRel w1 R P w4.heap.size pd 0 (.pointer (some ⟨pj, 0, none⟩)) (.int .i64 1) (w4.alloc (.cells #[.slice none 0 0, .int .i64 1, .int .i64 0, .string ⟨#[]⟩] 34))) := by
    have hJ := (unhide HJ4)
    refine hide ⟨pj, newJM R P, _, rfl, rfl, rfl, rfl, ⟨fun k => w1.heap.size ≤ k ∧ k < w4.heap.size, fun k => k = w4.heap.size, fun k d => d.1, fun k d => by omega, fun k d e => by omega, (hJ.mono (fun k l d => ⟨by rcases d with d | d; (exact d); (have := (unhide HK3).size; omega), l⟩)).keep hk5 (fun _ _ _ f => f), ⟨_, hb5, rfl, Own.nil _ _ _ _⟩⟩, (unhide HK4).trans (hk5.mono (T := fun k => w1.heap.size ≤ k) (fun _ _ f => f.elim)) (fun _ _ h => h), Nat.le_refl _, Nat.le_refl _, ?_⟩
    rw [createdDM_syncs]; exact Nat.le_refl _
  clear hb5 hk5
  generalize hps : w4.heap.size = ps at *
  generalize w4.alloc (.cells #[.slice none 0 0, .int .i64 1, .int .i64 0, .string ⟨#[]⟩] 34) = W5 at *
  go_loopw [9, 12, 13] (fun v9 v12 v13 wr => ∃ i : Nat, i ≤ n ∧ v13 = .int .i64 i ∧ Hid (KRel w1 R P ps pd i v9 v12 wr)) (fun _ _ v13 _ => n - (intOf v13).toNat)
  case atStart => exact ⟨0, Nat.zero_le _, rfl, HR0⟩
  case round =>
    obtain ⟨i, hi, rfl, HRR⟩ := hrel
    obtain ⟨pj0, j, m, rfl, rfl, rfl, rfl, hks, hkk, hlb, heb, hyb⟩ := unhide HRR
    by_cases hlt : i < n
    · obtain ⟨gs, os, k, a, s, ka, kc, bs, rfl, hgs, n0', n1', n2', n3', a0, a1, hs, hbl, hbc, hKA⟩ := unhide HS i hlt
      have hcell : ∀ x v, w1.cell? ⟨gs, x, none⟩ = some v → wr.cell? ⟨gs, x, none⟩ = some v := fun x v h => (hkk.cell (p := ⟨gs, x, none⟩) hgs (fun h => by have h' : w1.heap.size ≤ gs := h; omega)).trans h
      have n0 := hcell _ _ n0'
      have n1 := hcell _ _ n1'
      have n2 := hcell _ _ n2'
      have n3 := hcell _ _ n3'
      have b0 : (0 : Int) ≤ (i : Int) := Int.natCast_nonneg _
      have b1 : (i : Int) < (n : Int) := by omega
      have HKS0 := hide hks
      have HKK0 := hide hkk
      have HKA := hide hKA
      have hB0 := hkk.size
      have hfl : (j.L.length + 1) * 16 ≤ 140737488355328 := Nat.le_trans (Nat.mul_le_mul_right 16 (by omega)) (few16 i n hlt hF)
      clear hks hkk hKA hcell n0' n1' n2' n3'
      by_cases hk0 : 0 ≤ k ∧ k ≤ 2
      · have t1 : decide (0 ≤ k) = true := by simpa using hk0.1
        have t2 : decide (k ≤ 2) = true := by simpa using hk0.2
        have HNO := hide (notes_any w1.heap.size ps pj0 pd k a s (.slice ka bs.length kc) j m wr (unhide HKS0) hB0 hk0.1 hk0.2 a0 a1 hs (by omega) hfl)
        clear hk0
        go_wp2_with fail
        go_at_call 8
        refine (unhide HNO).mono ?_
        rintro e w6 ⟨rfl, ⟨j', m', hks6, hr6, hp6, he6, hl6, hy6⟩, hkk6⟩
        have HKS := hide hks6
        have HKK := hide ((unhide HKK0).trans hkk6 (fun _ _ h => h))
        have HE6 := hide he6
        clear hks6 hkk6 he6
        have HST := hide (stands_any w1.heap.size ps pj0 pd j' m' w6 (unhide HKS))
        obtain ⟨SS, TT, u1, u2, u3, u4, u5⟩ := unhide HKS
        obtain ⟨vn9, hat9⟩ := u4.at
        have HEP := hide (fun W (hk : Keeps (fun _ => False) w6 W) => jEpoch_any pj0 (j'.epoch : Int) W ((hat9.keep hk (fun f => f)).cells).2.2.2.2.2.2.1)
        clear u1 u2 u3 u4 u5 hat9
        go_wp2_with fail
        go_at_call 11
        refine (unhide HST).mono ?_
        rintro e w8 ⟨rfl, hk8⟩
        have HK8 := hide hk8
        clear hk8
        go_wp2_with fail
        go_at_call 12
        refine (unhide HEP w8 (unhide HK8)).mono ?_
        rintro e w9 ⟨rfl, rfl⟩
        have hne : ((j'.epoch : Int) != (j.epoch : Int)) = false := by rw [unhide HE6]; simp
        go_wp2
        go_roundw
        case rel => exact ⟨i + 1, by omega, by go_num, hide ⟨pj0, j', m', rfl, by rw [unhide HE6], hr6, hp6, (unhide HKS).keep (unhide HK8), (unhide HKK).trans ((unhide HK8).mono (T := fun k => w1.heap.size ≤ k) (fun _ _ f => f.elim)) (fun _ _ h => h), by omega, by rw [unhide HE6]; omega, by omega⟩⟩
        case measure => simp [intOf]; omega
      · by_cases hk3 : k = 3
        · subst hk3
          obtain ⟨S0, T0, z1, z2, z3, z4, z5⟩ := unhide HKS0
          have hkp : ∀ (Q : Nat → Prop), (∀ k, Q k → w1.heap.size ≤ k) → ∀ X, Keeps (fun k => w1.heap.size ≤ k) w1 X → Keep Q X ka bs := fun Q hQ X hX q hq => by
            obtain ⟨gk, ok, e1, e2, e3⟩ := unhide HKA q hq
            exact ⟨gk, ok, e1, Nat.lt_of_lt_of_le e2 hX.size, fun h => by have := hQ gk h; omega, (hX.cell (p := ⟨gk, ok + q, none⟩) e2 (fun h => by have h' : w1.heap.size ≤ gk := h; omega)).trans e3⟩
          have HCR2 := hide (dCrash_any S0 pd m ka kc bs wr z4.1.disk z4.2.2 (seven_le0 _ _ z4.2.1.fewPuts) (hkp S0 z1 wr (unhide HKK0)) (by omega) hbc)
          have HLO := hide (fun X (hX : Keeps S0 wr X) => lost_any T0 ps j.low j.safe kc j.L j.note ka bs X (z5.keep hX (fun k _ t d => z3 k d t)) (hkp T0 z2 X ((unhide HKK0).trans hX (fun k _ d => z1 k d))) z4.2.1.safe.2 (by have := z4.2.1.ok.few; omega) hbl hbc)
          have HZ := hide (⟨z1, z2, z3, z4, z5⟩ : (∀ k, S0 k → w1.heap.size ≤ k) ∧ (∀ k, T0 k → w1.heap.size ≤ k) ∧ (∀ k, S0 k → ¬ T0 k) ∧ JUse S0 wr pj0 pd j m ∧ ShelfAt T0 wr ps j.L j.low j.safe j.note)
          have hcell : ∀ x v, w1.cell? ⟨gs, x, none⟩ = some v → ∀ X, Keeps (fun k => w1.heap.size ≤ k) w1 X → X.cell? ⟨gs, x, none⟩ = some v := fun x v h X hX => (hX.cell (p := ⟨gs, x, none⟩) hgs (fun h => by have h' : w1.heap.size ≤ gs := h; omega)).trans h
          have hn3 : w1.cell? ⟨gs, os + i * 4 + 3, none⟩ = some (.slice ka bs.length kc) := ((unhide HKK0).cell (p := ⟨gs, os + i * 4 + 3, none⟩) hgs (fun h => by have h' : w1.heap.size ≤ gs := h; omega)).symm.trans n3
          have HN3 := hide (hcell _ _ hn3)
          clear z1 z2 z3 z4 z5 hkp hcell hn3 hk0
          go_wp2_with fail
          go_at_call 9
          refine (unhide HCR2).mono ?_
          rintro e wa ⟨rfl, hda, hka⟩
          have HDA : Hid (PDisk S0 wa pd (m.lose bs)) := hide hda
          have HKA1 := hide hka
          have HKKa := hide ((unhide HKK0).trans hka (fun k _ d => (unhide HZ).1 k d))
          have n3a := unhide HN3 wa (unhide HKKa)
          clear hda hka n0 n1 n2 n3
          go_wp2_with fail
          go_at_call 10
          refine (unhide HLO wa (unhide HKA1)).mono ?_
          rintro e wx ⟨rfl, hshx, hkx⟩
          have HKX := hide ((unhide HKKa).trans hkx (fun k _ d => (unhide HZ).2.1 k d))
          obtain ⟨j5, m5, safe5, HSH, hr5, hp5, he5, hl5, hy5⟩ : ∃ j5 m5 safe5, Hid (KShut w1.heap.size wx ps pd j5 m5 safe5) ∧ j5.ring = j.ring ∧ j5.per = j.per ∧ j5.epoch = j.epoch ∧ j5.L.length ≤ j.L.length ∧ m5.syncs = m.syncs := by
            obtain ⟨z1, z2, z3, z4, z5⟩ := unhide HZ
            refine ⟨j.crash bs, m.lose bs, j.safe, hide ⟨S0, T0, z1, z2, z3, Two.keep (unhide HDA) hkx (fun k _ d t => z3 k d t), DM.lose_ok z4.2.2 bs, by show (0 + 101) * 72 ≤ _; omega, z4.2.1.crash bs, hshx⟩, rfl, rfl, rfl, by show (j.L.take _).length ≤ _; rw [List.length_take]; omega, rfl⟩
          clear hshx hkx n3a
          obtain ⟨S, T, s1, s2, s3, s4, s5, s6, s7, s8⟩ := unhide HSH
          have HFA : Hid (ShelfAt T wx ps j5.L j5.low safe5 j5.note) := hide s8
          have HSS : Hid ((∀ k, S k → w1.heap.size ≤ k) ∧ (∀ k, T k → w1.heap.size ≤ k) ∧ (∀ k, S k → ¬ T k)) := hide ⟨s1, s2, s3⟩
          have HOP := hide (use_open S pd j5 m5 wx s4 s5 s6 (by omega) s7 (by omega))
          rw [hr5, hp5] at HOP
          clear s1 s2 s3 s4 s5 s6 s7 s8
          go_wp2_with fail
          go_at_call 6
          refine (unhide HOP).mono ?_
          rintro e w6 ⟨pj6, rfl, _, hj6, hk6⟩
          have hkT : ∀ k, T k → ¬ S k := fun k t d => (unhide HSS).2.2 k d t
          have hsh6 := (unhide HFA).keep hk6 (fun k _ t d => hkT k t d)
          obtain ⟨vl6, x1, x2, x3⟩ := hsh6
          obtain ⟨al6, cl6, rfl, _⟩ := x3.len
          have y0 := cell_of_heap (o := 0) x1
          have y2 := cell_of_heap (o := 2) x1
          have yf := frozen_of_heap (o := 2) x1
          simp at y0 y2
          have hpsl := lt_of_heap x1
          have HX1 := hide x1
          have HX2 := hide x2
          have HX3 := hide x3
          have HJ6 := hide hj6
          have HK6 := hide hk6
          have hs6 := hk6.size
          clear hj6 hk6 x1 x2 x3 hkT
          go_wp2_with fail
          have hks : Keeps (fun k => k = ps) w6 (w6.setCell ⟨ps, 2, none⟩ (.int .i64 (j5.L.length : Int))) := (Keeps.refl (fun k => k = ps) w6).setCell (p := ⟨ps, 2, none⟩) (.inl rfl) _
          have hx7 := heap_setCell_same (o := 2) (unhide HX1) (.int .i64 (j5.L.length : Int))
          generalize w6.setCell ⟨ps, 2, none⟩ (.int .i64 (j5.L.length : Int)) = w7 at *
          have hsx := (unhide HKX).size
          obtain ⟨j7, m7, HKS, hr7, hp7, he7, hl7, hy7⟩ : ∃ j7 m7, Hid (KState w1.heap.size w7 ps pj6 pd j7 m7) ∧ j7.ring = j.ring ∧ j7.per = j.per ∧ j7.epoch = j.epoch + 1 ∧ j7.L.length ≤ j.L.length ∧ m7.syncs = m.syncs + 1 := by
            refine ⟨⟨j.ring, j.per, j5.L, j5.low, j5.L.length, j5.epoch + 1, j5.note⟩, openedDM j5 m5, ?_, rfl, rfl, by show j5.epoch + 1 = _; rw [he5], hl5, by rw [openedDM_syncs, hy5]⟩
            obtain ⟨v1, v2, v3⟩ := unhide HSS
            have hTps : T ps := unhide HX2
            have hpsX : ps < wx.heap.size := by obtain ⟨_, h, _⟩ := unhide HFA; exact lt_of_heap h
            refine hide ⟨fun k => (S k ∨ wx.heap.size ≤ k), fun k => T k ∧ k < wx.heap.size, fun k d => ?_, fun k d => v2 k d.1, fun k d d' => ?_, (unhide HJ6).keep hks (fun k _ d e => ?_), ⟨_, hx7, ⟨hTps, hpsX⟩, ?_⟩⟩
            · rcases d with d | d
              · exact v1 k d
              · omega
            · rcases d with d | d
              · exact v3 k d d'.1
              · omega
            · rcases d with d | d
              · exact v3 k d (by rw [e]; exact hTps)
              · omega
            · obtain ⟨vlq, q1, q2, q3⟩ := unhide HFA
              have q1' := (unhide HK6).heap q1 (fun d => v3 ps d hTps)
              rw [unhide HX1] at q1'
              simp only [Option.some.injEq, Obj.cells.injEq, and_true] at q1'
              have q1'' : Value.slice al6 j5.L.length cl6 = vlq := by
                have := congrArg (fun l : Array Value => l[0]?) q1'
                simpa using this
              rw [q1'']
              exact (((q3.mono (fun k l d => ⟨⟨d.1, l⟩, d.2⟩)).keep (unhide HK6) (fun k _ d d' => v3 k d' d.1.1))).keep hks (fun k _ d e => d.2 e)
          have HKK : Hid (Keeps (fun k => w1.heap.size ≤ k) w1 w7) := by
            obtain ⟨v1, v2, v3⟩ := unhide HSS
            exact hide (((unhide HKX).trans (unhide HK6) (fun k _ d => v1 k d)).trans hks (fun k _ e => by rw [e]; exact v2 _ (unhide HX2)))
          clear hks hx7 y0 y2 yf
          have HST := hide (stands_any w1.heap.size ps pj6 pd j7 m7 w7 (unhide HKS))
          obtain ⟨SS, TT, u1, u2, u3, u4, u5⟩ := unhide HKS
          obtain ⟨vn9, hat9⟩ := u4.at
          have HEP := hide (fun W (hk : Keeps (fun _ => False) w7 W) => jEpoch_any pj6 (j7.epoch : Int) W ((hat9.keep hk (fun f => f)).cells).2.2.2.2.2.2.1)
          clear u1 u2 u3 u4 u5 hat9
          go_wp2_with fail
          go_at_call 11
          refine (unhide HST).mono ?_
          rintro e w8 ⟨rfl, hk8⟩
          have HK8 := hide hk8
          clear hk8
          go_wp2_with fail
          go_at_call 12
          refine (unhide HEP w8 (unhide HK8)).mono ?_
          rintro e w9 ⟨rfl, rfl⟩
          have hne : ((j7.epoch : Int) != (j.epoch : Int) + 1) = false := by rw [he7]; simp
          go_wp2
          go_roundw
          case rel => exact ⟨i + 1, by omega, by go_num, hide ⟨pj6, j7, m7, rfl, by rw [he7]; rfl, hr7, hp7, (unhide HKS).keep (unhide HK8), (unhide HKK).trans ((unhide HK8).mono (T := fun k => w1.heap.size ≤ k) (fun _ _ f => f.elim)) (fun _ _ h => h), by omega, by omega, by omega⟩⟩
          case measure => simp [intOf]; omega
        · obtain ⟨j5, m5, safe5, HSH, hr5, hp5, he5, hl5, hy5⟩ : ∃ j5 m5 safe5, Hid (KShut w1.heap.size wr ps pd j5 m5 safe5) ∧ j5.ring = j.ring ∧ j5.per = j.per ∧ j5.epoch = j.epoch ∧ j5.L.length ≤ j.L.length ∧ m5.syncs = m.syncs := ⟨j, m, j.safe, hide (unhide HKS0).shut, rfl, rfl, rfl, Nat.le_refl _, rfl⟩
          have hk3' : (k == 3) = false := by simpa using hk3
          have HKX := HKK0
          by_cases hneg : k < 0
          · have t1 : decide (0 ≤ k) = false := by simp; omega
            clear hk0
            obtain ⟨S, T, s1, s2, s3, s4, s5, s6, s7, s8⟩ := unhide HSH
            have HFA : Hid (ShelfAt T wr ps j5.L j5.low safe5 j5.note) := hide s8
            have HSS : Hid ((∀ k, S k → w1.heap.size ≤ k) ∧ (∀ k, T k → w1.heap.size ≤ k) ∧ (∀ k, S k → ¬ T k)) := hide ⟨s1, s2, s3⟩
            have HOP := hide (use_open S pd j5 m5 wr s4 s5 s6 (by omega) s7 (by omega))
            rw [hr5, hp5] at HOP
            clear s1 s2 s3 s4 s5 s6 s7 s8
            go_wp2_with fail
            go_at_call 6
            refine (unhide HOP).mono ?_
            rintro e w6 ⟨pj6, rfl, _, hj6, hk6⟩
            have hkT : ∀ k, T k → ¬ S k := fun k t d => (unhide HSS).2.2 k d t
            have hsh6 := (unhide HFA).keep hk6 (fun k _ t d => hkT k t d)
            obtain ⟨vl6, x1, x2, x3⟩ := hsh6
            obtain ⟨al6, cl6, rfl, _⟩ := x3.len
            have y0 := cell_of_heap (o := 0) x1
            have y2 := cell_of_heap (o := 2) x1
            have yf := frozen_of_heap (o := 2) x1
            simp at y0 y2
            have hpsl := lt_of_heap x1
            have HX1 := hide x1
            have HX2 := hide x2
            have HX3 := hide x3
            have HJ6 := hide hj6
            have HK6 := hide hk6
            have hs6 := hk6.size
            clear hj6 hk6 x1 x2 x3 hkT
            go_wp2_with fail
            have hks : Keeps (fun k => k = ps) w6 (w6.setCell ⟨ps, 2, none⟩ (.int .i64 (j5.L.length : Int))) := (Keeps.refl (fun k => k = ps) w6).setCell (p := ⟨ps, 2, none⟩) (.inl rfl) _
            have hx7 := heap_setCell_same (o := 2) (unhide HX1) (.int .i64 (j5.L.length : Int))
            generalize w6.setCell ⟨ps, 2, none⟩ (.int .i64 (j5.L.length : Int)) = w7 at *
            have hsx := (unhide HKX).size
            obtain ⟨j7, m7, HKS, hr7, hp7, he7, hl7, hy7⟩ : ∃ j7 m7, Hid (KState w1.heap.size w7 ps pj6 pd j7 m7) ∧ j7.ring = j.ring ∧ j7.per = j.per ∧ j7.epoch = j.epoch + 1 ∧ j7.L.length ≤ j.L.length ∧ m7.syncs = m.syncs + 1 := by
              refine ⟨⟨j.ring, j.per, j5.L, j5.low, j5.L.length, j5.epoch + 1, j5.note⟩, openedDM j5 m5, ?_, rfl, rfl, by show j5.epoch + 1 = _; rw [he5], hl5, by rw [openedDM_syncs, hy5]⟩
              obtain ⟨v1, v2, v3⟩ := unhide HSS
              have hTps : T ps := unhide HX2
              have hpsX : ps < wr.heap.size := by obtain ⟨_, h, _⟩ := unhide HFA; exact lt_of_heap h
              refine hide ⟨fun k => (S k ∨ wr.heap.size ≤ k), fun k => T k ∧ k < wr.heap.size, fun k d => ?_, fun k d => v2 k d.1, fun k d d' => ?_, (unhide HJ6).keep hks (fun k _ d e => ?_), ⟨_, hx7, ⟨hTps, hpsX⟩, ?_⟩⟩
              · rcases d with d | d
                · exact v1 k d
                · omega
              · rcases d with d | d
                · exact v3 k d d'.1
                · omega
              · rcases d with d | d
                · exact v3 k d (by rw [e]; exact hTps)
                · omega
              · obtain ⟨vlq, q1, q2, q3⟩ := unhide HFA
                have q1' := (unhide HK6).heap q1 (fun d => v3 ps d hTps)
                rw [unhide HX1] at q1'
                simp only [Option.some.injEq, Obj.cells.injEq, and_true] at q1'
                have q1'' : Value.slice al6 j5.L.length cl6 = vlq := by
                  have := congrArg (fun l : Array Value => l[0]?) q1'
                  simpa using this
                rw [q1'']
                exact (((q3.mono (fun k l d => ⟨⟨d.1, l⟩, d.2⟩)).keep (unhide HK6) (fun k _ d d' => v3 k d' d.1.1))).keep hks (fun k _ d e => d.2 e)
            have HKK : Hid (Keeps (fun k => w1.heap.size ≤ k) w1 w7) := by
              obtain ⟨v1, v2, v3⟩ := unhide HSS
              exact hide (((unhide HKX).trans (unhide HK6) (fun k _ d => v1 k d)).trans hks (fun k _ e => by rw [e]; exact v2 _ (unhide HX2)))
            clear hks hx7 y0 y2 yf
            have HST := hide (stands_any w1.heap.size ps pj6 pd j7 m7 w7 (unhide HKS))
            obtain ⟨SS, TT, u1, u2, u3, u4, u5⟩ := unhide HKS
            obtain ⟨vn9, hat9⟩ := u4.at
            have HEP := hide (fun W (hk : Keeps (fun _ => False) w7 W) => jEpoch_any pj6 (j7.epoch : Int) W ((hat9.keep hk (fun f => f)).cells).2.2.2.2.2.2.1)
            clear u1 u2 u3 u4 u5 hat9
            go_wp2_with fail
            go_at_call 11
            refine (unhide HST).mono ?_
            rintro e w8 ⟨rfl, hk8⟩
            have HK8 := hide hk8
            clear hk8
            go_wp2_with fail
            go_at_call 12
            refine (unhide HEP w8 (unhide HK8)).mono ?_
            rintro e w9 ⟨rfl, rfl⟩
            have hne : ((j7.epoch : Int) != (j.epoch : Int) + 1) = false := by rw [he7]; simp
            go_wp2
            go_roundw
            case rel => exact ⟨i + 1, by omega, by go_num, hide ⟨pj6, j7, m7, rfl, by rw [he7]; rfl, hr7, hp7, (unhide HKS).keep (unhide HK8), (unhide HKK).trans ((unhide HK8).mono (T := fun k => w1.heap.size ≤ k) (fun _ _ f => f.elim)) (fun _ _ h => h), by omega, by omega, by omega⟩⟩
            case measure => simp [intOf]; omega
          · have t1 : decide (0 ≤ k) = true := by simp; omega
            have t2 : decide (k ≤ 2) = false := by simp; omega
            clear hk0
            obtain ⟨S, T, s1, s2, s3, s4, s5, s6, s7, s8⟩ := unhide HSH
            have HFA : Hid (ShelfAt T wr ps j5.L j5.low safe5 j5.note) := hide s8
            have HSS : Hid ((∀ k, S k → w1.heap.size ≤ k) ∧ (∀ k, T k → w1.heap.size ≤ k) ∧ (∀ k, S k → ¬ T k)) := hide ⟨s1, s2, s3⟩
            have HOP := hide (use_open S pd j5 m5 wr s4 s5 s6 (by omega) s7 (by omega))
            rw [hr5, hp5] at HOP
            clear s1 s2 s3 s4 s5 s6 s7 s8
            go_wp2_with fail
            go_at_call 6
            refine (unhide HOP).mono ?_
            rintro e w6 ⟨pj6, rfl, _, hj6, hk6⟩
            have hkT : ∀ k, T k → ¬ S k := fun k t d => (unhide HSS).2.2 k d t
            have hsh6 := (unhide HFA).keep hk6 (fun k _ t d => hkT k t d)
            obtain ⟨vl6, x1, x2, x3⟩ := hsh6
            obtain ⟨al6, cl6, rfl, _⟩ := x3.len
            have y0 := cell_of_heap (o := 0) x1
            have y2 := cell_of_heap (o := 2) x1
            have yf := frozen_of_heap (o := 2) x1
            simp at y0 y2
            have hpsl := lt_of_heap x1
            have HX1 := hide x1
            have HX2 := hide x2
            have HX3 := hide x3
            have HJ6 := hide hj6
            have HK6 := hide hk6
            have hs6 := hk6.size
            clear hj6 hk6 x1 x2 x3 hkT
            go_wp2_with fail
            have hks : Keeps (fun k => k = ps) w6 (w6.setCell ⟨ps, 2, none⟩ (.int .i64 (j5.L.length : Int))) := (Keeps.refl (fun k => k = ps) w6).setCell (p := ⟨ps, 2, none⟩) (.inl rfl) _
            have hx7 := heap_setCell_same (o := 2) (unhide HX1) (.int .i64 (j5.L.length : Int))
            generalize w6.setCell ⟨ps, 2, none⟩ (.int .i64 (j5.L.length : Int)) = w7 at *
            have hsx := (unhide HKX).size
            obtain ⟨j7, m7, HKS, hr7, hp7, he7, hl7, hy7⟩ : ∃ j7 m7, Hid (KState w1.heap.size w7 ps pj6 pd j7 m7) ∧ j7.ring = j.ring ∧ j7.per = j.per ∧ j7.epoch = j.epoch + 1 ∧ j7.L.length ≤ j.L.length ∧ m7.syncs = m.syncs + 1 := by
              refine ⟨⟨j.ring, j.per, j5.L, j5.low, j5.L.length, j5.epoch + 1, j5.note⟩, openedDM j5 m5, ?_, rfl, rfl, by show j5.epoch + 1 = _; rw [he5], hl5, by rw [openedDM_syncs, hy5]⟩
              obtain ⟨v1, v2, v3⟩ := unhide HSS
              have hTps : T ps := unhide HX2
              have hpsX : ps < wr.heap.size := by obtain ⟨_, h, _⟩ := unhide HFA; exact lt_of_heap h
              refine hide ⟨fun k => (S k ∨ wr.heap.size ≤ k), fun k => T k ∧ k < wr.heap.size, fun k d => ?_, fun k d => v2 k d.1, fun k d d' => ?_, (unhide HJ6).keep hks (fun k _ d e => ?_), ⟨_, hx7, ⟨hTps, hpsX⟩, ?_⟩⟩
              · rcases d with d | d
                · exact v1 k d
                · omega
              · rcases d with d | d
                · exact v3 k d d'.1
                · omega
              · rcases d with d | d
                · exact v3 k d (by rw [e]; exact hTps)
                · omega
              · obtain ⟨vlq, q1, q2, q3⟩ := unhide HFA
                have q1' := (unhide HK6).heap q1 (fun d => v3 ps d hTps)
                rw [unhide HX1] at q1'
                simp only [Option.some.injEq, Obj.cells.injEq, and_true] at q1'
                have q1'' : Value.slice al6 j5.L.length cl6 = vlq := by
                  have := congrArg (fun l : Array Value => l[0]?) q1'
                  simpa using this
                rw [q1'']
                exact (((q3.mono (fun k l d => ⟨⟨d.1, l⟩, d.2⟩)).keep (unhide HK6) (fun k _ d d' => v3 k d' d.1.1))).keep hks (fun k _ d e => d.2 e)
            have HKK : Hid (Keeps (fun k => w1.heap.size ≤ k) w1 w7) := by
              obtain ⟨v1, v2, v3⟩ := unhide HSS
              exact hide (((unhide HKX).trans (unhide HK6) (fun k _ d => v1 k d)).trans hks (fun k _ e => by rw [e]; exact v2 _ (unhide HX2)))
            clear hks hx7 y0 y2 yf
            have HST := hide (stands_any w1.heap.size ps pj6 pd j7 m7 w7 (unhide HKS))
            obtain ⟨SS, TT, u1, u2, u3, u4, u5⟩ := unhide HKS
            obtain ⟨vn9, hat9⟩ := u4.at
            have HEP := hide (fun W (hk : Keeps (fun _ => False) w7 W) => jEpoch_any pj6 (j7.epoch : Int) W ((hat9.keep hk (fun f => f)).cells).2.2.2.2.2.2.1)
            clear u1 u2 u3 u4 u5 hat9
            go_wp2_with fail
            go_at_call 11
            refine (unhide HST).mono ?_
            rintro e w8 ⟨rfl, hk8⟩
            have HK8 := hide hk8
            clear hk8
            go_wp2_with fail
            go_at_call 12
            refine (unhide HEP w8 (unhide HK8)).mono ?_
            rintro e w9 ⟨rfl, rfl⟩
            have hne : ((j7.epoch : Int) != (j.epoch : Int) + 1) = false := by rw [he7]; simp
            go_wp2
            go_roundw
            case rel => exact ⟨i + 1, by omega, by go_num, hide ⟨pj6, j7, m7, rfl, by rw [he7]; rfl, hr7, hp7, (unhide HKS).keep (unhide HK8), (unhide HKK).trans ((unhide HK8).mono (T := fun k => w1.heap.size ≤ k) (fun _ _ f => f.elim)) (fun _ _ h => h), by omega, by omega, by omega⟩⟩
            case measure => simp [intOf]; omega
    · go_wp2
      go_ret
      exact ⟨rfl, hkk⟩

end Go.Proofs.Ythbmmbgkchiajaa
