
/- scan: how far the records go. -/
import Derived.Test.YthbmmbgkchiajaaGreatJBegin
import Derived.Deep.LoopGhost
import Derived.WalkMore
namespace Go.Proofs.YthbmmbgkchiajaaGreat
open Go.RowKit

/-- What a journal's disk holds, as far as scan looks. -/
structure Scans (j : JM) (m : DM) : Prop where
  ok : j.ok
  room : j.ring * j.per + 2 ≤ m.dur.length
  live : ∀ n, j.low ≤ n → n ≤ j.L.length → m.read (slot j.ring j.per n) = j.recd n
  rest : j.L.length < (j.low - 1) / j.per * j.per + j.ring * j.per → Sec (m.read (slot j.ring j.per (j.L.length + 1))) (fun a => a ≠ j.L.length + 1)
theorem Found.scans {j : JM} {m : DM} (h : Found j m) : Scans j m := ⟨h.ok, h.room, h.live, h.rest⟩

theorem Scans.at {j : JM} {m : DM} (h : Scans j m) {n : Nat} (h0 : j.low ≤ n) (h1 : n ≤ j.L.length + 1) (h2 : n ≤ (j.low - 1) / j.per * j.per + j.ring * j.per) :
    ∃ a b t, m.read (slot j.ring j.per n) = packB a b t ∧ t.size ≤ 40 ∧ a < 4611686018427387904 ∧ b < 4611686018427387904 ∧ (a = n ↔ n ≤ j.L.length) := by
  by_cases hn : n ≤ j.L.length
  · obtain ⟨a, b, t, e, e1, e2, e3, e4⟩ := JM.rec_sec h.ok n hn (fun a => a = n) rfl
    exact ⟨a, b, t, (h.live n h0 hn).trans e, e1, e2, e3, by simp [e4, hn]⟩
  · have e : n = j.L.length + 1 := by omega
    subst e
    obtain ⟨a, b, t, e, e1, e2, e3, e4⟩ := h.rest (by omega)
    exact ⟨a, b, t, e, e1, e2, e3, by constructor; (intro h; exact absurd h e4); (intro h; omega)⟩

/-- In the midst of scan: all records below n have been found. -/
def ScanRel (S : Nat → Prop) (w : World) (j : JM) (m : DM) (pj pd dur epoch : Nat) (note : ByteArray) (n : Nat) (wr : World) : Prop :=
  JD S wr pj pd j.ring j.per j.low n dur epoch note m ∧ Keeps S w wr

theorem ScanRel.drewN {S : Nat → Prop} {w : World} {j : JM} {m : DM} {pj pd dur epoch : Nat} {note : ByteArray} {n : Nat} {wr : World} (h : ScanRel S w j m pj pd dur epoch note n wr) (q : Nat) : ScanRel S w j m pj pd dur epoch note n (wr.drewN q) :=
  ⟨h.1.keep (Keeps.drewN' (S := fun _ => False) wr q) (fun _ _ _ f => f), h.2.drewN q⟩

attribute [local go_sem ↓] mulI_eq

set_option maxRecDepth 100000 in
set_option maxHeartbeats 800000 in
theorem scan_any (S : Nat → Prop) (j : JM) (pj pd dur epoch : Nat) (note : ByteArray) (m : DM) (w : World) (hJ : JD S w pj pd j.ring j.per j.low j.low dur epoch note m) (hm : m.ok) (hN : m.puts.length * 72 ≤ 140737488355328) (hS : Scans j m) :
    Calls Tryz.prog 253 #[.pointer (some ⟨pj, 0, none⟩)] w fun e w' => e = .returned (.tuple #[]) ∧ JD S w' pj pd j.ring j.per j.low (j.L.length + 1) dur epoch note m ∧ Keeps S w w' := by
  obtain ⟨vn, hat, _⟩ := hJ.at
  rename_i hx; clear hx
  obtain ⟨c0, c1, c2, c3, c4, c5, c6, c7⟩ := hat.cells
  have hlow := hS.ok.low
  have hring := hS.ok.ring
  have hper := hS.ok.per
  have hfew := hS.ok.few
  have hwin := hS.ok.win
  have HJ0 : Hid (ScanRel S w j m pj pd dur epoch note j.low w) := hide ⟨hJ, Keeps.refl _ _⟩
  have HM := hide hm
  have HSC := hide hS
  obtain ⟨F, HF⟩ : ∃ F : Nat, Hid (F = (j.low - 1) / j.per) := ⟨_, hide rfl⟩
  have hF1 : F * j.per + 1 ≤ j.low := by have := Nat.div_mul_le_self (j.low - 1) j.per; rw [← unhide HF] at this; omega
  have hFb : F ≤ j.L.length := by have := Nat.div_le_self (j.low - 1) j.per; rw [← unhide HF] at this; omega
  have hF2 : j.low ≤ (F + 1) * j.per := by have := (Nat.div_lt_iff_lt_mul (k := j.per) (x := j.low - 1) (y := F + 1) (by omega)).1 (by rw [← unhide HF]; omega); omega
  rw [← unhide HF] at hwin
  have hseg := fun W h => segment_any pj j.per j.low W h (by omega) hper.2 hlow.1 (by omega)
  rw [← unhide HF] at hseg
  have HSEG := hide hseg
  clear hJ hm hS hseg hat
  have HC : Hid (1 ≤ j.ring * j.per ∧ j.ring * j.per ≤ 96) := hide ⟨by have := (unhide HSC).ok.pos; omega, (unhide HSC).ok.pos.2⟩
  go_enter Tryz.func253, Tryz.ntmps253
  go_wp2
  go_step3
  go_wp2_with fail
  go_at_call 256
  refine (unhide HSEG w c2).mono ?_
  rintro e w1 ⟨rfl, rfl⟩
  clear c0 c1 c2 c3 c4 c5 c6 c7
  go_wp2
  go_step3
  go_wp2
  go_loopg [3] j.ring (fun g s3 wx => ∃ s nx : Nat, s + g = F + j.ring ∧ F ≤ s ∧ s3 = .int .i64 s ∧ Hid (nx = max j.low (s * j.per + 1) ∧ nx ≤ j.L.length + 1 ∧ ScanRel S w1 j m pj pd dur epoch note nx wx))
  case atStart => exact ⟨F, j.low, rfl, Nat.le_refl _, rfl, hide ⟨by omega, hlow.2, unhide HJ0⟩⟩
  case round =>
    obtain ⟨s, nx, hsg, hFs, rfl, HR⟩ := hrel
    obtain ⟨hnx, hnxl, hR⟩ := unhide HR
    obtain ⟨vn', hat', _⟩ := hR.1.at
    rename_i hx; clear hx
    obtain ⟨c0, c1, c2, c3, c4, c5, c6, c7⟩ := hat'.cells
    have HNX := hide hnx
    have HNL := hide hnxl
    have HRR := hide hR
    clear HR hR hat' hnx hnxl
    cases gk with
    | zero =>
      have hs : s = F + j.ring := by omega
      have HSS := hide hs
      have hno : decide ((s : Int) < (F : Int) + (j.ring : Int)) = false := by simp; omega
      clear hs
      go_wp2
      try rw [Exit.noGoto_normal]
      go_end0
      have hfin : nx = j.L.length + 1 := by
        have h1 := unhide HNX
        have h2 := unhide HNL
        rw [unhide HSS, Nat.add_mul] at h1
        omega
      have hR := unhide HRR
      rw [hfin] at hR
      exact ⟨rfl, hR.1, hR.2⟩
    | succ g =>
      have hyes : decide ((s : Int) < (F : Int) + (j.ring : Int)) = true := by simp; omega
      obtain ⟨P, HP⟩ : ∃ P : Nat, Hid (P = s * j.per) := ⟨_, hide rfl⟩
      have hPF : s * j.per ≤ (F + j.ring) * j.per := Nat.mul_le_mul_right _ (by omega)
      have hPF2 : (s + 1) * j.per ≤ (F + j.ring) * j.per := Nat.mul_le_mul_right _ (by omega)
      have hLF : (F + 1) * j.per ≤ (s + 1) * j.per := Nat.mul_le_mul_right _ (by omega)
      have hFp : F * j.per ≤ j.L.length := by omega
      have hC2 := (unhide HC).2
      rw [Nat.add_mul F] at hPF hPF2
      have hPb : s * j.per ≤ 3305843009213693952 := by omega
      have hPb2 : (s + 1) * j.per ≤ 3305843009213693952 := by omega
      have hmul := fun W => run_mulI W s j.per (by omega)
      have hmul2' := fun W => run_mulI W (s + 1) j.per (by omega)
      have hlP : j.low ≤ (s + 1) * j.per := by omega
      have hsucc : (s + 1) * j.per = s * j.per + j.per := by rw [Nat.add_mul, Nat.one_mul]
      obtain ⟨P2, HP2⟩ : ∃ P : Nat, Hid (P = (s + 1) * j.per) := ⟨_, hide rfl⟩
      rw [← unhide HP] at hmul HNX hPb hsucc
      rw [← unhide HP2] at hPb2 hlP hsucc hmul2' hPF2
      have hmul2 : ∀ W, (mulI (.int .i64 ((s : Int) + 1)) (.int .i64 (j.per : Int))).run Tryz.prog W = .ok (.int .i64 (P2 : Int)) W := hmul2'
      have HWIN : Hid (P2 ≤ F * j.per + j.ring * j.per) := hide hPF2
      have HSU := hide hsucc
      clear hPF hPF2 hFp hC2 hwin hF1 hF2 hLF hmul2' hsucc
      go_wp2
      go_region
      clear c0 c1 c2 c3 c4 c5 c6 c7 hmul
      go_wp2
      all_goals
        go_loopg [4] (P2 + 1 - nx) (fun g s4 wx => ∃ n : Nat, n + g = P2 + 1 ∧ s4 = .int .i64 n ∧ Hid (j.low ≤ n ∧ P + 1 ≤ n ∧ n ≤ j.L.length + 1 ∧ ScanRel S w1 j m pj pd dur epoch note n wx))
        case atStart =>
          have h1 := unhide HNX
          have h2 := unhide HNL
          have h3 := unhide HSU
          refine ⟨nx, by omega, ?_, hide ⟨by omega, by omega, h2, (unhide HRR).drewN 1⟩⟩
          congr 1
          first | omega | (split <;> omega)
        case round =>
          obtain ⟨n, hng, rfl, HR⟩ := hrel
          obtain ⟨hn0, hn1, hn2, hR⟩ := unhide HR
          obtain ⟨vn2, hat2, _⟩ := hR.1.at
          rename_i hx; clear hx
          obtain ⟨c0, c1, c2, c3, c4, c5, c6, c7⟩ := hat2.cells
          cases gk with
          | zero =>
            have hno : decide ((n : Int) ≤ (P2 : Int)) = false := by simp; omega
            have HRR2 := hide hR
            clear hat2 hR HR
            go_wp2
            go_roundg g
            case rel =>
              refine ⟨s + 1, n, by omega, by omega, by go_num, hide ⟨?_, hn2, unhide HRR2⟩⟩
              rw [← unhide HP2]; omega
            case measure => omega
          | succ g' =>
            have hyes : decide ((n : Int) ≤ (P2 : Int)) = true := by simp; omega
            have hw2 := unhide HWIN
            obtain ⟨a, b, t, e1, e2, e3, e4, e5⟩ := (unhide HSC).at hn0 hn2 (by rw [← unhide HF]; omega)
            have HST := hide (fun W (hJ : JAt W pj pd j.ring j.per j.low n dur epoch vn2) (hD : PDisk S W pd m) => stored_any S pj pd j.ring j.per j.low n dur epoch n a b vn2 t m W hJ hD (unhide HM) hN (unhide HC) (unhide HSC).room (by omega) (by omega) e1 e2 e3 e4)
            have HAT := hide hat2
            have HDD := hide hR.1.disk
            have HRR2 := hide hR
            clear hat2 hR HR hw2
            have HN2 := hide hn2
            go_wp2_with fail
            go_at_call 263
            refine (unhide HST wr (unhide HAT) (unhide HDD)).mono ?_
            rintro e w2 ⟨gq, rfl, _, _, hk2⟩
            rename_i hy1 hy2; clear hy1 hy2
            have HR2 : Hid (ScanRel S w1 j m pj pd dur epoch note n w2) := hide ⟨(unhide HRR2).1.keep hk2 (fun _ _ _ f => f), (unhide HRR2).2.trans (hk2.mono (T := S) (fun _ _ f => f.elim)) (fun _ _ h => h)⟩
            clear hk2
            obtain ⟨vn3, hat3, _⟩ := (unhide HR2).1.at
            rename_i hx; clear hx
            obtain ⟨d0, d1, d2, d3, d4, d5, d6, d7⟩ := hat3.cells
            have hf4 := hat3.frozen 4
            clear hat3
            by_cases hlast : n ≤ j.L.length
            · have ha := e5.2 hlast
              have hne : ((a : Int) != (n : Int)) = false := by rw [bne_eq_false_iff_eq]; omega
              have HA := hide hlast
              clear e5 e1 ha
              go_wp2
              go_roundg g'
              case rel =>
                refine ⟨n + 1, by omega, by go_num, hide ⟨by omega, by omega, by omega, ?_⟩⟩
                exact ⟨(unhide HR2).1.setNext (n + 1), (unhide HR2).2.setCell (p := ⟨pj, 4, none⟩) (.inl (unhide HR2).1.own.1) _⟩
              case measure => omega
            · have hne : ((a : Int) != (n : Int)) = true := by
                rw [bne_iff_ne]
                intro h
                exact hlast (e5.1 (by omega))
              have HE : Hid (n = j.L.length + 1) := hide (by omega)
              clear e5 e1
              go_wp2
              try rw [Exit.noGoto_normal]
              go_end0
              have hR2 := unhide HR2
              rw [unhide HE] at hR2
              exact ⟨rfl, hR2.1, hR2.2⟩

end Go.Proofs.YthbmmbgkchiajaaGreat
