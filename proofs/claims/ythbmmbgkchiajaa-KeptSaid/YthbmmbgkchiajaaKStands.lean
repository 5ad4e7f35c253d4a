
/- stands: is it what stands there? -/
import Derived.Test.YthbmmbgkchiajaaKLost
namespace Go.Proofs.Ythbmmbgkchiajaa
open Go.RowKit

attribute [local go_sem ↓] strOf_eq

theorem ByteArray.beq_toList (s : ByteArray) : (s.toList == s.toList) = true := beq_self_eq_true _
theorem ByteArray.bne_toList (s : ByteArray) : (s.toList != s.toList) = false := by simp

set_option maxRecDepth 100000 in
set_option maxHeartbeats 800000 in
theorem stands_any (B ps pj pd : Nat) (j : JM) (m : DM) (w : World) (h : KState B w ps pj pd j m) :
    Calls Try.prog 11 #[.pointer (some ⟨ps, 0, none⟩), .pointer (some ⟨pj, 0, none⟩)] w fun e w' => e = .returned (.bool true) ∧ Keeps (fun _ => False) w w' := by
  obtain ⟨S, T, h1, h2, h3, h4, h5⟩ := h
  obtain ⟨vl, g1, g2, g3⟩ := h5
  obtain ⟨al, cl, rfl, hcl⟩ := g3.len
  obtain ⟨vn, hat⟩ := h4.at
  obtain ⟨c0, c1, c2, c3, c4, c5, c6, c7⟩ := hat.cells
  have hok := h4.2.1.ok
  have hlow := hok.low
  have hfew := hok.few
  have hnote := hok.note
  have HFA : Hid (∀ X, Keeps (fun _ => False) w X → (X.cell? ⟨ps, 0, none⟩ = some (.slice al j.L.length cl) ∧ X.cell? ⟨ps, 1, none⟩ = some (.int .i64 (j.low : Int)) ∧ X.cell? ⟨ps, 2, none⟩ = some (.int .i64 (j.safe : Int)) ∧ X.cell? ⟨ps, 3, none⟩ = some (.string j.note)) ∧ JUse S X pj pd j m ∧
      ∀ k s, j.L[k]? = some s → ∃ g, al = some ⟨g, 0, none⟩ ∧ X.cell? ⟨g, k, none⟩ = some (.string s)) := hide fun X hX => by
    have q1 := hX.heap g1 (fun f => f)
    refine ⟨⟨cell_of_heap q1, cell_of_heap q1, cell_of_heap q1, cell_of_heap q1⟩, h4.keep hX (fun _ _ _ f => f), fun k s hk => ?_⟩
    have hkl := (List.getElem?_eq_some_iff.1 hk).1
    obtain ⟨g, cap, e, _, _, hgl, hc, _⟩ := g3.open (by omega)
    cases e
    exact ⟨g, rfl, (hX.cell (p := ⟨g, k, none⟩) hgl (fun f => f)).trans (hc k _ (by rw [List.getElem?_map, hk]; rfl))⟩
  have HJ := hide h4
  clear h1 h2 h3 h4 g1 g2 g3 hat hok
  go_enter Try.func11, Try.ntmps11
  go_wp2_with fail
  go_at_call 24
  refine (jLow_any pj _ w c3).mono ?_
  rintro e w1 ⟨rfl, rfl⟩
  go_wp2_with fail
  go_at_call 25
  refine (jNext_any pj _ w1 c4).mono ?_
  rintro e w1 ⟨rfl, rfl⟩
  go_wp2_with fail
  go_at_call 26
  refine (jDurable_any pj _ w1 c5).mono ?_
  rintro e w1 ⟨rfl, rfl⟩
  go_wp2_with fail
  go_at_call 27
  refine (jNote_any S pj pd _ _ _ _ _ _ j.note m w1 (unhide HJ).1 hnote).mono ?_
  rintro e w2 ⟨v', rfl, hb2, hk2⟩
  have hstr : ∀ n, (strOf v').run Try.prog (w2.drewN n) = .ok (.string j.note) (w2.drewN n) := fun n => run_strOf _ _ v' j.note (hb2.keep ((Keeps.refl (fun _ => False) w2).drewN n) (fun _ _ _ f => f))
  obtain ⟨⟨p0, p1, p2, p3⟩, _, _⟩ := unhide HFA w2 hk2
  rename_i hx1 hx2; clear hx1 hx2
  have HK2 := hide hk2
  have e1 : ((j.L.length + 1 : Nat) : Int) = (j.L.length : Int) + 1 := rfl
  clear hb2 hk2 c0 c1 c2 c3 c4 c5 c6 c7
  go_wp2
  go_quiet (fail)
  have hkq : Keeps (fun _ => False) w2 (w2.drewN nq) := (Keeps.refl _ w2).drewN nq
  generalize w2.drewN nq = X at *
  have HKX := hide ((unhide HK2).trans hkq (fun _ _ f => f))
  clear hkq hstr p0 p1 p2 p3
  go_wp2
  go_loopw [9] (fun i wr => ∃ n : Nat, j.low ≤ n ∧ n ≤ j.L.length + 1 ∧ i = .int .i64 n ∧ Hid (Keeps (fun _ => False) w1 wr)) (fun i _ => j.L.length + 1 - (intOf i).toNat)
  case atStart => exact ⟨j.low, Nat.le_refl _, hlow.2, rfl, HKX⟩
  case round =>
    obtain ⟨n, hn0, hn1, rfl, HR⟩ := hrel
    by_cases hlt : n ≤ j.L.length
    · have t1 : decide ((n : Int) < (j.L.length : Int) + 1) = true := by simp; omega
      obtain ⟨⟨p0, p1, p2, p3⟩, hju, hl⟩ := unhide HFA wr (unhide HR)
      have HC := hide (use_read S pj pd n j m wr hju hn0 hlt)
      obtain ⟨rec, hrec⟩ : ∃ s, j.L[n - 1]? = some s := ⟨_, List.getElem?_eq_getElem (by omega)⟩
      have hgd : j.L.getD (n - 1) ByteArray.empty = rec := by rw [List.getD_eq_getElem?_getD, hrec]; rfl
      rw [hgd] at HC
      obtain ⟨g, rfl, _⟩ := hl (n - 1) rec hrec
      rename_i hx; clear hx
      have HREC := hide hrec
      clear hju hl hgd hrec p0 p1 p2 p3
      go_wp2_with fail
      go_at_call 28
      refine (unhide HC).mono ?_
      rintro e w3 ⟨gr, cs, rfl, _, _, _, hb3, hk3⟩
      rename_i hx1 hx2 hx3; clear hx1 hx2 hx3
      have hstr : ∀ q, (strOf (.slice (some ⟨gr, 17, none⟩) rec.size 47)).run Try.prog (w3.drewN q) = .ok (.string rec) (w3.drewN q) := fun q => run_strOf _ _ _ rec (hb3.keep ((Keeps.refl (fun _ => False) w3).drewN q) (fun _ _ _ f => f))
      have hk13 := (unhide HR).trans hk3 (fun _ _ f => f)
      obtain ⟨⟨p0, p1, p2, p3⟩, _, hl⟩ := unhide HFA w3 hk13
      rename_i hx; clear hx
      obtain ⟨g', hg', hcell⟩ := hl (n - 1) rec (unhide HREC)
      cases hg'
      have HK13 := hide hk13
      have b0 : (0 : Int) ≤ (n : Int) - 1 := by omega
      have b1 : (n : Int) - 1 < (j.L.length : Int) := by omega
      have b2 : ((n : Int) - 1).toNat = n - 1 := by omega
      clear hb3 hk3 hk13 hl
      go_wp2
      go_quiet (fail)
      have hkq : Keeps (fun _ => False) w3 (w3.drewN nq) := (Keeps.refl _ w3).drewN nq
      generalize w3.drewN nq = X3 at *
      have HKX3 := hide ((unhide HK13).trans hkq (fun _ _ f => f))
      clear hkq hstr p0 p1 p2 p3
      go_wp2
      go_roundw
      case rel => exact ⟨n + 1, by omega, by omega, by go_num, HKX3⟩
      case measure => simp [intOf]; omega
    · have hn : n = j.L.length + 1 := by omega
      have t1 : decide ((n : Int) < (j.L.length : Int) + 1) = false := by simp; omega
      obtain ⟨⟨p0, p1, p2, p3⟩, hju, hl⟩ := unhide HFA wr (unhide HR)
      have HJU := hide hju
      clear hju hl p0 p1 p2 p3
      go_wp2_with fail
      go_at_call 28
      refine (read_bad S pj pd _ _ _ _ _ _ _ j.note m wr (unhide HJU).1 (.inl (by omega))).mono ?_
      rintro e w3 ⟨rfl, rfl⟩
      go_wp2_with fail
      go_at_call 28
      refine (read_bad S pj pd _ _ _ _ _ _ _ j.note m w3 (unhide HJU).1 (.inr (by omega))).mono ?_
      rintro e w4 ⟨rfl, rfl⟩
      go_wp2
      go_ret
      exact ⟨rfl, unhide HR⟩

end Go.Proofs.Ythbmmbgkchiajaa
