
/- Each step on a volume, whatever the volume. -/
import Derived.Test.YthbmmbgkchiajaaGreatQInv

namespace Go.Proofs.YthbmmbgkchiajaaGreat
open Go.RowKit

theorem plain_vol {o : Nat → Nat} {t v n : Nat} {w : World} (h : VolT o t w v (.plain n)) : Vol o t w v (freshDM n) := by
  obtain ⟨⟨d, r, dirty, h1, h2, h3, h4, h5⟩, h6⟩ := h
  exact ⟨d, r, dirty, by rw [show (freshDM n).dur.length = n by simp [freshDM]]; exact h1, h6, h2, h3, freshDM_ok n h4 h5⟩
theorem vol_plain {o : Nat → Nat} {t v n : Nat} {w : World} (h : Vol o t w v (freshDM n)) (hn : 1 ≤ n ∧ n ≤ 128) : VolT o t w v (.plain n) := by
  obtain ⟨d, r, dirty, h1, h2, h3, h4, h5⟩ := h
  rw [show (freshDM n).dur.length = n by simp [freshDM]] at h1
  exact ⟨⟨d, r, dirty, h1, h3, h4, hn⟩, h2⟩

theorem VolA.at {D R : Nat → Prop} {w X : World} {v : Nat} {x : VM} (h : VolA D R w v x) (hk : Keeps (fun _ => False) w X) : VolA (fun k => D k ∧ k < w.heap.size) (fun k => R k ∧ k < w.heap.size) X v x :=
  ⟨(h.1.mono (fun _ l d => ⟨d, l⟩) (fun _ l d => ⟨d, l⟩)).keep hk (fun f => f) (fun _ _ _ f => f) (fun _ _ _ f => f), fun k d r => h.2.1 k d.1 r.1, fun d => h.2.2.1 d.1, fun d => h.2.2.2 d.1⟩
theorem QStep.back {D R : Nat → Prop} {w X w' : World} {v : Nat} {x' : VM} (hk : Keeps (fun _ => False) w X) (h : QStep (fun k => D k ∧ k < w.heap.size) (fun k => R k ∧ k < w.heap.size) X v x' w') : QStep D R w v x' w' := by
  obtain ⟨⟨D', R', h1, h5⟩, h6⟩ := h
  refine ⟨⟨D', R', h1, fun k hl => ⟨fun d => ((h5 k (Nat.lt_of_lt_of_le hl hk.size)).1 d).1, fun d => ((h5 k (Nat.lt_of_lt_of_le hl hk.size)).2 d).1⟩⟩, (hk.mono (fun _ _ f => f.elim)).trans h6 (fun k _ q => ?_)⟩
  rcases q with q | q | q
  · exact .inl q
  · exact .inr (.inl q.1)
  · exact .inr (.inr q.1)

/-- A step on volume v at tag t is done. -/
def StepT (o : Nat → Nat) (t : Nat) (w : World) (v N : Nat) (w' : World) : Prop := ∃ x', VB (N + 1) x' ∧ VStepT o t w v x' w'

theorem StepT.of {o : Nat → Nat} {t v N : Nat} {w w' : World} {x x' : VM} (hV : VolT o t w v x) (hb : VB (N + 1) x') (h : QStep (fun k => o k = t + 1) (fun k => o k = t + 2) w v x' w') : StepT o t w v N w' :=
  ⟨x', hb, h.tags hV.1.lt hV.2⟩

theorem StepT.jour {o : Nat → Nat} {t v N : Nat} {w w' : World} {x : VM} {j : JM} {m : DM} {use : Bool} (hV : VolT o t w v x) (h : QStep (fun k => o k = t + 1) (fun k => o k = t + 2) w v (.jour j m use) w') (h1 : j.L.length ≤ N + 1) (h2 : j.epoch ≤ N + 1) (h3 : m.syncs ≤ N + 1) : StepT o t w v N w' :=
  StepT.of (x' := .jour j m use) hV ⟨h1, h2, h3⟩ h

theorem geo_small (n ring per : Nat) (w : World) (hr : 2 ≤ ring ∧ ring ≤ 6) (hp : 2 ≤ per ∧ per ≤ 16) (h : n < ring * per + 2) :
    Calls Tryz.prog 250 #[.int .i64 (n : Int), .int .i64 (ring : Int), .int .i64 (per : Int)] w fun e w' => e = .returned (.bool false) ∧ w' = w := by
  have := geo_in n ring per w hr hp
  rw [show decide (ring * per + 2 ≤ n) = false by simp; omega] at this
  exact this

theorem VB.syncs {N : Nat} {x : VM} (h : VB N x) : x.dm.syncs ≤ N := by
  cases x with
  | plain n => exact Nat.zero_le _
  | jour j m use => exact h.2.2

theorem created_any {o : Nat → Nat} {t v N : Nat} {x : VM} {w : World} (hV : VolT o t w v x) (hb : VB N x) (hN : N ≤ 140737488351232) (a b c : Int) (s : ByteArray) (vk vp : Value) :
    Calls Tryz.prog 122 #[.pointer (some ⟨v, 0, none⟩), opv 7 a b c s vk vp] w fun e w' => e = .returned (.bool true) ∧ StepT o t w v N w' := by
  by_cases hg : 2 ≤ b ∧ b ≤ 6 ∧ 2 ≤ c ∧ c ≤ 16
  · obtain ⟨ring, rfl⟩ := Int.eq_ofNat_of_zero_le (a := b) (by omega)
    obtain ⟨per, rfl⟩ := Int.eq_ofNat_of_zero_le (a := c) (by omega)
    have hr : 2 ≤ ring ∧ ring ≤ 6 := by omega
    have hp : 2 ≤ per ∧ per ≤ 16 := by omega
    by_cases hroom : ring * per + 2 ≤ x.dm.dur.length
    · refine (created_yes _ _ v ring per x 7 a s vk vp w hV.volA hr hp hroom (by have := hb.syncs; omega)).mono fun e w' ⟨e1, e2⟩ => ⟨e1, StepT.jour hV e2 (Nat.zero_le _) (by show 1 ≤ N + 1; omega) (by rw [createdDM_syncs]; have := hb.syncs; omega)⟩
    · exact (created_no _ _ v x 7 a ring per s vk vp w hV.volA (fun d W hd hok => create_small _ d ring per _ W hd hok hr hp (by omega)) (fun W => geo_small _ ring per W hr hp (by omega))).mono fun e w' ⟨e1, e2⟩ => ⟨e1, StepT.of hV hb.more e2⟩
  · exact (created_no _ _ v x 7 a b c s vk vp w hV.volA (fun d W _ _ => create_bad d b c W hg) (fun W => geo_bad _ b c W hg)).mono fun e w' ⟨e1, e2⟩ => ⟨e1, StepT.of hV hb.more e2⟩

theorem opened_any {o : Nat → Nat} {t v N : Nat} {x : VM} {w : World} (hV : VolT o t w v x) (hb : VB N x) (hN : N ≤ 140737488351232) (a b c : Int) (s : ByteArray) (vk vp : Value) :
    Calls Tryz.prog 123 #[.pointer (some ⟨v, 0, none⟩), opv 8 a b c s vk vp] w fun e w' => e = .returned (.bool true) ∧ StepT o t w v N w' := by
  by_cases hdy : ∃ n, x = .plain n ∧ w.cell? ⟨v, 5, none⟩ = some (.bool true)
  · obtain ⟨n, rfl, hd⟩ := hdy
    exact (opened_dirty _ _ v n 8 a b c s vk vp w hV.volA hd).mono fun e w' ⟨e1, e2⟩ => ⟨e1, StepT.of hV hb.more e2⟩
  · have hcl : Clean w v ∧ ∀ n, x = .plain n → w.cell? ⟨v, 5, none⟩ = some (.bool false) := by
      cases x with
      | plain n =>
        obtain ⟨⟨d, r, dirty, h1, _⟩, _⟩ := hV
        have c4 := cell_of_heap (o := 4) h1
        have c5 := cell_of_heap (o := 5) h1
        simp at c4 c5
        cases dirty with
        | true => exact absurd ⟨n, rfl, c5⟩ hdy
        | false => exact ⟨⟨none, false, c4, c5, rfl⟩, fun _ _ => c5⟩
      | jour j m use =>
        obtain ⟨⟨d, r, rj, dirty, vj, h1, _⟩, _⟩ := hV
        have c4 := cell_of_heap (o := 4) h1
        have c5 := cell_of_heap (o := 5) h1
        simp at c4 c5
        exact ⟨⟨_, dirty, c4, c5, rfl⟩, fun n e => by cases e⟩
    by_cases hg : 2 ≤ b ∧ b ≤ 6 ∧ 2 ≤ c ∧ c ≤ 16
    · obtain ⟨ring, rfl⟩ := Int.eq_ofNat_of_zero_le (a := b) (by omega)
      obtain ⟨per, rfl⟩ := Int.eq_ofNat_of_zero_le (a := c) (by omega)
      have hr : 2 ≤ ring ∧ ring ≤ 6 := by omega
      have hp : 2 ≤ per ∧ per ≤ 16 := by omega
      by_cases hroom : ring * per + 2 ≤ x.dm.dur.length
      · cases x with
        | plain n =>
          rw [show (VM.plain n).dm.dur.length = n by simp [VM.dm, freshDM]] at hroom
          exact (opened_brk_plain _ _ v n ring per 8 a s vk vp w hV.volA (hcl.2 n rfl) hr hp hroom).mono fun e w' ⟨e1, e2⟩ => ⟨e1, StepT.of hV hb.more e2⟩
        | jour j m use =>
          by_cases hj : j.ring = ring ∧ j.per = per
          · obtain ⟨rfl, rfl⟩ := hj
            have h2 := hb.2.1
            have h3 := hb.2.2
            exact (opened_yes _ _ v j m use 8 a s vk vp w hV.volA (by omega) (by omega)).mono fun e w' ⟨e1, e2⟩ => ⟨e1, StepT.jour hV e2 (Nat.le_succ_of_le hb.1) (by show j.epoch + 1 ≤ N + 1; omega) (by rw [openedDM_syncs]; omega)⟩
          · exact (opened_brk_jour _ _ v ring per j m use 8 a s vk vp w hV.volA hr hp hroom hj).mono fun e w' ⟨e1, e2⟩ => ⟨e1, StepT.of hV hb.more e2⟩
      · exact (opened_arg _ _ v x 8 a ring per s vk vp w hV.volA hcl.1 (fun d W hd hok => open_small _ d ring per _ W hd hok hr hp (by omega)) (fun W => geo_small _ ring per W hr hp (by omega))).mono fun e w' ⟨e1, e2⟩ => ⟨e1, StepT.of hV hb.more e2⟩
    · exact (opened_arg _ _ v x 8 a b c s vk vp w hV.volA hcl.1 (fun d W _ _ => open_bad d b c W hg) (fun W => geo_bad _ b c W hg)).mono fun e w' ⟨e1, e2⟩ => ⟨e1, StepT.of hV hb.more e2⟩

theorem crashed_any2 {B : Nat} {o : Nat → Nat} {t v N : Nat} {x : VM} {w : World} (hV : VolT o t w v x) (hb : VB N x) (a b c : Int) (s : ByteArray) (vk vp : Value) (bs : List Bool) (hO : OpOk B w b c s vk bs) (hB : ∀ k, k < B → o k = 0) (hBw : B ≤ w.heap.size) (ht : 5 ≤ t) :
    Calls Tryz.prog 121 #[.pointer (some ⟨v, 0, none⟩), opv 6 a b c s vk vp] w fun e w' => e = .returned (.bool true) ∧ StepT o t w v N w' := by
  have hge : ∀ k, o k ≠ 0 → B ≤ k := fun k h => by
    rcases Nat.lt_or_ge k B with h' | h'
    · exact absurd (hB k h') h
    · exact h'
  cases x with
  | plain n =>
    have hn : 1 ≤ n ∧ n ≤ 128 := by obtain ⟨⟨d, r, dirty, h1, h2, h3, h4⟩, h6⟩ := hV; exact h4
    have back : ∀ bs w', VStep o t w v ((freshDM n).crash bs) w' → StepT o t w v N w' := fun bs w' h => ⟨.plain n, trivial, by
      obtain ⟨⟨o', h1, h2⟩, h3⟩ := h
      exact ⟨⟨o', vol_plain h1 hn, h2⟩, h3⟩⟩
    rcases hO.k with ⟨rfl, rfl⟩ | ⟨ak, cap, rfl, hcap, hr⟩
    · exact (crashed_nil o t v (freshDM n) a b c s vp w (plain_vol hV) (by show 0 * 72 ≤ _; omega)).mono fun e w' ⟨e1, e2⟩ => ⟨e1, back _ _ e2⟩
    · exact (crashed_some B o t v (freshDM n) a b c s ak cap bs vp w (plain_vol hV) (by show 0 * 72 ≤ _; omega) hB hBw ht hO.bl hcap hr).mono fun e w' ⟨e1, e2⟩ => ⟨e1, back _ _ e2⟩
  | jour j m use =>
    have hs := crash_safe hV.1
    have hb' : ∀ bs, VB (N + 1) (.jour (j.crash bs) (m.lose bs) false) := fun bs => ⟨by
      have h1 := hb.1
      show (j.L.take _).length ≤ _
      rw [List.length_take]; omega, Nat.le_succ_of_le hb.2.1, Nat.le_succ_of_le hb.2.2⟩
    rcases hO.k with ⟨rfl, rfl⟩ | ⟨ak, cap, rfl, hcap, hr⟩
    · exact (crashedJ_nil _ _ v j m use a b c s vp w hV.volA).mono fun e w' ⟨e1, e2⟩ => ⟨e1, StepT.of hV (hb' _) e2⟩
    · exact (crashedJ_some _ _ v j m use a b c s vp w hV.volA B cap ak bs (fun k d => hge k (by omega)) (fun k d => hge k (by omega)) (hge v (by have := hV.2; omega)) hBw hO.bl hcap hr).mono fun e w' ⟨e1, e2⟩ => ⟨e1, StepT.of hV (hb' _) e2⟩

theorem moved_any2 {o : Nat → Nat} {t v N : Nat} {j : JM} {m : DM} {use : Bool} {w : World} (hV : VolT o t w v (.jour j m use)) (hb : VB N (.jour j m use)) (hN : N ≤ 140737488351232) :
    Calls Tryz.prog 124 #[.pointer (some ⟨v, 0, none⟩)] w fun e w' => e = .returned (.bool true) ∧ StepT o t w v N w' := by
  have h1 := hb.1
  have h2 := hb.2.1
  exact (moved_any _ _ v j m use w hV.volA (by omega) (by omega)).mono fun e w' ⟨e1, e2⟩ => ⟨e1, StepT.jour hV e2 (Nat.le_succ_of_le h1) (Nat.le_succ_of_le h2) (by rw [copyDM_syncs]; omega)⟩

end Go.Proofs.YthbmmbgkchiajaaGreat

/- Each step on a journal in use. -/
namespace Go.Proofs.YthbmmbgkchiajaaGreat
open Go.RowKit

theorem noted9 {o : Nat → Nat} {t v pw N : Nat} {j : JM} {m : DM} {w : World} (hV : VolT o t w v (.jour j m true)) (hb : VB N (.jour j m true)) (hN : N ≤ 140737488351232) (hN16 : (N + 1) * 16 ≤ 140737488355328) (hok : InUse j m) (a b c : Int) (s : ByteArray) (vk vp : Value) (hs : s.size ≤ 140737488351232) :
    Calls Tryz.prog 126 #[.pointer (some ⟨pw, 0, none⟩), .pointer (some ⟨v, 0, none⟩), opv 9 a b c s vk vp] w fun e w' => e = .returned (.bool true) ∧ StepT o t w v N w' := by
  have h1 := hb.1
  by_cases hl : 40 < s.size
  · exact (noted_append _ _ v pw j j m m a b c s vk vp w hV.volA 0 1 hs
      (fun D0 T X pj d ao cap hj _ => (append_long pj s.size cap ao X hl (by omega)).mono fun e X' ⟨e1, e2⟩ => ⟨e1, by rw [e2]; exact hj.mono (fun _ _ d => .inl d), by rw [e2]; exact Keeps.refl _ _⟩)
      (fun R0 X rj hr => (rjAppend_long R0 rj j s X hr hl hs).mono fun e X' ⟨e1, e2⟩ => ⟨e1, by rw [e2]; exact hr.mono (fun _ _ d => .inl d), by rw [e2]; exact Keeps.refl _ _⟩) rfl rfl).mono fun e w' ⟨e1, e2⟩ => ⟨e1, StepT.of hV hb.more e2⟩
  · by_cases hf : j.full
    · exact (noted_append _ _ v pw j j m m a b c s vk vp w hV.volA 0 2 hs
        (fun D0 T X pj d ao cap hj _ => (use_append_full D0 pj d s.size cap ao j m X hj (by omega) hf).mono fun e X' ⟨e1, e2⟩ => ⟨e1, (hj.keep e2 (fun _ _ _ f => f)).mono (fun _ _ d => .inl d), e2.mono (fun _ _ f => f.elim)⟩)
        (fun R0 X rj hr => (rjAppend_full R0 rj j s X hr hok.ok (by omega) hf).mono fun e X' ⟨e1, e2⟩ => ⟨e1, (hr.keep e2 (fun _ _ _ f => f)).mono (fun _ _ d => .inl d), e2.mono (fun _ _ f => f.elim)⟩) rfl rfl).mono fun e w' ⟨e1, e2⟩ => ⟨e1, StepT.of hV hb.more e2⟩
    · exact (noted_append _ _ v pw j { j with L := j.L ++ [s] } m (m.put (slot j.ring j.per (j.L.length + 1)) (packB (j.L.length + 1) 0 s)) a b c s vk vp w hV.volA ((j.L.length + 1 : Nat) : Int) 0 hs
        (fun D0 T X pj d ao cap hj hv => use_append_yes D0 T pj d cap ao s j m X hj (by omega) hv hf (by omega))
        (fun R0 X rj hr => rjAppend_yes R0 rj j s X hr hok.ok (by omega) hf (Nat.le_trans (Nat.mul_le_mul_right 16 (Nat.succ_le_succ h1)) hN16)) rfl rfl).mono fun e w' ⟨e1, e2⟩ => ⟨e1, StepT.jour hV e2 (by show (j.L ++ [s]).length ≤ _; simp; omega) (Nat.le_succ_of_le hb.2.1) (Nat.le_succ_of_le hb.2.2)⟩

theorem noted10 {o : Nat → Nat} {t v pw N : Nat} {j : JM} {m : DM} {w : World} (hV : VolT o t w v (.jour j m true)) (hb : VB N (.jour j m true)) (hN : N ≤ 140737488351232) (a b c : Int) (s : ByteArray) (vk vp : Value) (hvp : ∃ a n c, vp = .slice a n c) (hvk : ∃ a n c, vk = .slice a n c) :
    Calls Tryz.prog 126 #[.pointer (some ⟨pw, 0, none⟩), .pointer (some ⟨v, 0, none⟩), opv 10 a b c s vk vp] w fun e w' => e = .returned (.bool true) ∧ StepT o t w v N w' := by
  have h3 := hb.2.2
  have hsl : m.syncs < 9223372036854775807 := by omega
  by_cases hn : b < 0 ∨ (j.L.length : Int) < b
  · exact (noted_force _ _ v pw (.jour j m true) a b c s vk vp w hvp hvk (fun X hX => (forced_gen _ _ v pw j j m m a b c s vk vp X (hV.volA.at hX) false 1
      (fun D0 Y pj d hj => (force_bad D0 pj d _ _ _ _ _ _ b _ m Y hj.1 (by omega)).mono fun e X' ⟨e1, e2⟩ => ⟨e1, by rw [e2]; exact hj, by rw [e2]; exact Keeps.refl _ _⟩)
      (fun R0 Y rj hr => (rjForce_bad R0 rj j b Y hr hn).mono fun e X' ⟨e1, e2⟩ => ⟨e1, by rw [e2]; exact hr, by rw [e2]; exact Keeps.refl _ _⟩) rfl hsl rfl).mono fun e w' ⟨e1, e2⟩ => ⟨e1, e2.back hX⟩)).mono fun e w' ⟨e1, e2⟩ => ⟨e1, StepT.of hV hb.more e2⟩
  · obtain ⟨n, rfl⟩ := Int.eq_ofNat_of_zero_le (a := b) (by omega)
    by_cases hd : n ≤ j.safe
    · exact (noted_force _ _ v pw (.jour j m true) a n c s vk vp w hvp hvk (fun X hX => (forced_gen _ _ v pw j j m m a n c s vk vp X (hV.volA.at hX) false 0
        (fun D0 Y pj d hj => (use_force_old D0 pj d n j m Y hj (by omega) hd).mono fun e X' ⟨e1, e2⟩ => ⟨e1, by rw [e2]; exact hj, by rw [e2]; exact Keeps.refl _ _⟩)
        (fun R0 Y rj hr => (rjForce_old R0 rj j n Y hr (by omega) hd).mono fun e X' ⟨e1, e2⟩ => ⟨e1, by rw [e2]; exact hr, by rw [e2]; exact Keeps.refl _ _⟩) rfl hsl rfl).mono fun e w' ⟨e1, e2⟩ => ⟨e1, e2.back hX⟩)).mono fun e w' ⟨e1, e2⟩ => ⟨e1, StepT.of hV hb.more e2⟩
    · exact (noted_force _ _ v pw (.jour { j with safe := j.L.length } m.sync true) a n c s vk vp w hvp hvk (fun X hX => (forced_gen _ _ v pw j { j with safe := j.L.length } m m.sync a n c s vk vp X (hV.volA.at hX) true 0
        (fun D0 Y pj d hj => use_force_new D0 pj d n j m Y hj hsl (by omega) (by omega))
        (fun R0 Y rj hr => rjForce_new R0 rj j n Y hr (by omega) (by omega)) rfl hsl (DM.sync_len m)).mono fun e w' ⟨e1, e2⟩ => ⟨e1, e2.back hX⟩)).mono fun e w' ⟨e1, e2⟩ => ⟨e1, StepT.jour hV e2 (Nat.le_succ_of_le hb.1) (Nat.le_succ_of_le hb.2.1) (by show m.syncs + 1 ≤ N + 1; omega)⟩

theorem noted11 {o : Nat → Nat} {t v pw N : Nat} {j : JM} {m : DM} {w : World} (hV : VolT o t w v (.jour j m true)) (hb : VB N (.jour j m true)) (hN : N ≤ 140737488351232) (a b c : Int) (s : ByteArray) (vk vp : Value) (hs : s.size ≤ 140737488351232) :
    Calls Tryz.prog 126 #[.pointer (some ⟨pw, 0, none⟩), .pointer (some ⟨v, 0, none⟩), opv 11 a b c s vk vp] w fun e w' => e = .returned (.bool true) ∧ StepT o t w v N w' := by
  have h1 := hb.1
  have h3 := hb.2.2
  by_cases hn : b < (j.low : Int) ∨ (j.L.length : Int) + 1 < b ∨ 40 < s.size
  · exact (noted_trunc _ _ v pw j j m m a b c s vk vp w hV.volA 1 hs
      (fun D0 T X pj d ao cap hj _ _ => (truncate_bad D0 pj d _ _ _ _ _ _ s.size cap ao b _ m X hj.1 (by omega) (by omega)).mono fun e X' ⟨e1, e2⟩ => ⟨e1, by rw [e2]; exact hj.mono (fun _ _ d => .inl d), by rw [e2]; exact Keeps.refl _ _⟩)
      (fun R0 X rj hr => (rjTruncate_bad R0 rj j b s X hr (by omega) hs hn).mono fun e X' ⟨e1, e2⟩ => ⟨e1, by rw [e2]; exact hr.mono (fun _ _ d => .inl d), by rw [e2]; exact Keeps.refl _ _⟩) rfl).mono fun e w' ⟨e1, e2⟩ => ⟨e1, StepT.of hV hb.more e2⟩
  · obtain ⟨x, rfl⟩ := Int.eq_ofNat_of_zero_le (a := b) (by omega)
    exact (noted_trunc _ _ v pw j { j with low := x, note := s, safe := j.L.length } m ((m.put 1 (packB x j.epoch s)).sync) a x c s vk vp w hV.volA 0 hs
      (fun D0 T X pj d ao cap hj hv hT => use_truncate D0 T pj d cap x ao s j m X hj (by omega) (by omega) (by omega) (by omega) hv hT)
      (fun R0 X rj hr => (rjTruncate_yes R0 rj j x s X hr (by omega) (by omega) (by omega) (by omega)).mono fun e X' ⟨e1, e2, e3⟩ => ⟨e1, e2.mono (fun _ _ d => .inl d), e3⟩) (DM.sync_len _)).mono fun e w' ⟨e1, e2⟩ => ⟨e1, StepT.jour hV e2 (Nat.le_succ_of_le hb.1) (Nat.le_succ_of_le hb.2.1) (by show m.syncs + 1 ≤ N + 1; omega)⟩

theorem noted12 {o : Nat → Nat} {t v pw N : Nat} {j : JM} {m : DM} {w : World} {vcs vvs vks vb v4 v5 v6 : Value} {ls : List Value} {T : Nat → Prop} (hV : VolT o t w v (.jour j m true)) (hb : VB N (.jour j m true)) (hN : N ≤ 140737488351232) (hok : InUse j m) (hpw : w.heap[pw]? = some (.cells #[vcs, vvs, vks, vb, v4, v5, v6] 79 (0, 0))) (hrow : Own T w 138 1 vb ls.length ls) (hpT : ¬ T pw) (hNl : (ls.length + 4) * 24 ≤ 140737488355328) (a b c : Int) (s : ByteArray) (vk vp : Value) :
    Calls Tryz.prog 126 #[.pointer (some ⟨pw, 0, none⟩), .pointer (some ⟨v, 0, none⟩), opv 12 a b c s vk vp] w fun e w' => e = .returned (.bool true) ∧ LookPost T pw vcs vvs vks v4 v5 v6 ls w w' := by
  have h1 := hb.1
  by_cases hn : b < (j.low : Int) ∨ (j.L.length : Int) < b
  · exact noted_record _ _ T v pw j m vcs vvs vks vb v4 v5 v6 ls a b c s vk vp w hV.volA hpw hrow hpT hNl 0 1 ByteArray.empty (Nat.zero_le _)
      (fun D0 X pj d hj => (read_bad D0 pj d _ _ _ _ _ _ b _ m X hj.1 (by omega)).mono fun e X' ⟨e1, e2⟩ => ⟨none, e1, ⟨Nat.le_refl _, Nat.zero_le _, .inl ⟨rfl, rfl, rfl⟩⟩, ⟨none, 0, rfl, Nat.le_refl _, fun _ => rfl, fun a ha => by cases ha⟩, by rw [e2]; exact Keeps.refl _ _, fun _ => rfl⟩)
      (fun R0 X rj hr => rjRead_bad R0 rj j b X hr hn)
  · have hlo := hok.ok.low
    obtain ⟨n, rfl⟩ := Int.eq_ofNat_of_zero_le (a := b) (by omega)
    have hst : j.L[n - 1]? = some (j.L.getD (n - 1) ByteArray.empty) := by
      rw [List.getD_eq_getElem?_getD, List.getElem?_eq_getElem (by omega)]; rfl
    exact noted_record _ _ T v pw j m vcs vvs vks vb v4 v5 v6 ls a n c s vk vp w hV.volA hpw hrow hpT hNl 47 0 (j.L.getD (n - 1) ByteArray.empty) (hok.ok.sizes _ (List.mem_of_getElem? hst))
      (fun D0 X pj d hj => (use_read D0 pj d n j m X hj (by omega) (by omega)).mono fun e X' ⟨g, cs, e1, e2, e3, e4, e5, e6⟩ => ⟨some ⟨g, 17, none⟩, e1, ⟨by have := hok.ok.sizes _ (List.mem_of_getElem? hst); omega, by unfold maxLen; omega, .inr ⟨g, 17, cs, _, rfl, e2, e3, by omega⟩⟩, e5.mono (fun _ _ _ => trivial), e6, fun h => absurd rfl h⟩)
      (fun R0 X rj hr => rjRead_yes R0 rj j n _ X hr (by omega) (by omega) (by omega) (by omega) hst)

theorem KBG.mono {T T' : Nat → Prop} {p nl cap : Nat} {ao : Option Addr} {vcs vvs vks v4 v5 v6 : Value} {ls : List Value} {w w' : World} (h : KBG T p nl cap ao vcs vvs vks v4 v5 v6 ls w w') (ht : ∀ k, T k → T' k) : KBG T' p nl cap ao vcs vvs vks v4 v5 v6 ls w w' := by
  obtain ⟨w3, vb', x1, x2, x3, k3, hKR, n1, n2, n3, e1, e2, e3⟩ := h
  refine ⟨w3, vb', x1, x2, x3, k3, hKR, n1, n2, n3, e1, e2.mono (fun k _ d => ?_), e3.mono (fun k _ d => ?_)⟩
  · rcases d with d | d
    · exact .inl ⟨ht k d.1, d.2⟩
    · exact .inr d
  · rcases d with d | d | d
    · exact .inl d
    · exact .inr (.inl ⟨ht k d.1, d.2⟩)
    · exact .inr (.inr d)

theorem noted13 {o : Nat → Nat} {t v pw : Nat} {j : JM} {m : DM} {w : World} {vcs vvs vks vb v4 v5 v6 : Value} {ls : List Value} {T : Nat → Prop} (hV : VolT o t w v (.jour j m true)) (hpw : w.heap[pw]? = some (.cells #[vcs, vvs, vks, vb, v4, v5, v6] 79 (0, 0))) (hrow : Own T w 138 1 vb ls.length ls) (hpT : ¬ T pw) (hNl : (ls.length + 4) * 24 ≤ 140737488355328) (a b c : Int) (s : ByteArray) (vk vp : Value) :
    Calls Tryz.prog 126 #[.pointer (some ⟨pw, 0, none⟩), .pointer (some ⟨v, 0, none⟩), opv 13 a b c s vk vp] w fun e w' => e = .returned (.bool true) ∧ LookPost T pw vcs vvs vks v4 v5 v6 ls w w' := by
  refine noted_state T v pw vcs vvs vks v4 v5 v6 ls a b c s vk vp w (fun X hX => ?_)
  refine (state_any _ _ (fun k => T k ∧ k < w.heap.size) v pw j m vcs vvs vks vb v4 v5 v6 ls X (hV.volA.at hX) (hX.heap hpw (fun f => f)) ((hrow.mono (fun k l d => ⟨d, l⟩)).keep hX (fun _ _ _ f => f)) (fun d => hpT d.1) hNl).mono ?_
  rintro e w' ⟨e1, w1, ao, nl, cap, k1, hnl, ⟨o1, o2, o3⟩, hK⟩
  have hs := hX.size
  refine ⟨e1, w1, ao, nl, cap, hX.trans k1 (fun _ _ f => f), hnl, ⟨o1, o2, ?_⟩, hK.mono (fun k d => d.1)⟩
  rcases o3 with h | ⟨g, off, cs, e, a1, a2, a3⟩
  · exact .inl h
  · exact .inr ⟨g, off, cs, e, a1, by omega, a3⟩

end Go.Proofs.YthbmmbgkchiajaaGreat
