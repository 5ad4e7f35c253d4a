
/- The walk of apart. -/
import Derived.Test.YthbmmbgkchiajaaGreatApart
namespace Go.Proofs.YthbmmbgkchiajaaGreat
open Go.RowKit


theorem apart_keep {w : World} {p gb i g a : Nat} {v1 v2 v : Value} (h : w.cell? ⟨p, 3, none⟩ = some v1 ∧ w.cell? ⟨gb, i, none⟩ = some v2) (hp : g ≠ p) (hg : g ≠ gb) :
    (w.setCell ⟨g, a, none⟩ v).drew.cell? ⟨p, 3, none⟩ = some v1 ∧ (w.setCell ⟨g, a, none⟩ v).drew.cell? ⟨gb, i, none⟩ = some v2 := by
  have hk : Keeps (fun k => k = g) w (w.setCell ⟨g, a, none⟩ v) := (Keeps.refl (fun k => k = g) w).setCell (p := ⟨g, a, none⟩) (.inl rfl) _
  exact ⟨(hk.cell (p := ⟨p, 3, none⟩) (World.block_lt_of_cell? w _ h.1) (fun e => hp e.symm)).trans h.1, (hk.cell (p := ⟨gb, i, none⟩) (World.block_lt_of_cell? w _ h.2) (fun e => hg e.symm)).trans h.2⟩

set_option maxRecDepth 100000 in
set_option maxHeartbeats 6400000 in
theorem apart_any (S T : Nat → Prop) (o : Nat → Nat) (p : Nat) (ls : List Value) (w : World) (hB : BookAt T w p ls) (hE : BookC S o (fun _ _ => True) w ls) (hn : ls.length ≤ 9223372036854775000) (h4 : ls.length % 4 = 0)
    (hTS : ∀ k, T k → ¬ S k) (hpS : ¬ S p) :
    Calls Tryz.prog 41 #[.pointer (some ⟨p, 3, none⟩)] w fun e w' => e = .returned (.bool true) ∧ Keeps S w w' := by
  obtain ⟨vb, c3, c4, c5, c6, hrow⟩ := hB
  obtain ⟨ab, cb, rfl, hcb⟩ := hrow.len
  have hpl := World.block_lt_of_cell? w _ c3
  have HROW := hide hrow
  have HTS := hide hTS
  have HE := hide hE
  clear hrow hTS hE c4 c5 c6
  go_enter Tryz.func41, Tryz.ntmps41
  go_wp2
  go_loopw [3] (fun n wr => ∃ nn q : Nat, nn = 4 * q ∧ nn ≤ ls.length ∧ n = .int .i64 (nn : Int) ∧ BookC S o (fun _ _ => True) wr ls ∧ Keeps S w wr) (fun n _ => ls.length - (intOf n).toNat)
  case atStart => exact ⟨0, 0, rfl, Nat.zero_le _, rfl, unhide HE, Keeps.refl _ _⟩
  case round =>
    obtain ⟨n, q, hnq, hq, rfl, hE, hk⟩ := hrel
    have HNQ := hide hnq
    clear hnq
    have c3r : wr.cell? ⟨p, 3, none⟩ = some (.slice ab ls.length cb) := (hk.cell (p := ⟨p, 3, none⟩) hpl hpS).trans c3
    have HEr := hide hE
    clear hE
    by_cases hlt : n < ls.length
    · have dA : decide ((n : Int) < (ls.length : Int)) = true := by simp; omega
      have hn4 : n + 4 ≤ ls.length := by have := unhide HNQ; omega
      go_wp2
      go_loopw [4] (fun i w2 => ∃ i0 : Nat, n ≤ i0 ∧ i0 ≤ n + 4 ∧ i = .int .i64 i0 ∧ BookC S o (C1 q) w2 ls ∧ Keeps S w w2) (fun i _ => n + 4 - (intOf i).toNat)
      case atStart => exact ⟨n, Nat.le_refl _, by omega, rfl, (unhide HEr).weak (fun _ _ _ => trivial), hk⟩
      case round =>
        obtain ⟨i0, hi0, hi1, rfl, hE1, hk1⟩ := hrel
        have c3s : wr.cell? ⟨p, 3, none⟩ = some (.slice ab ls.length cb) := (hk1.cell (p := ⟨p, 3, none⟩) hpl hpS).trans c3
        clear c3r HEr hk
        by_cases hil : i0 < n + 4
        · have dB : decide ((i0 : Int) < (n : Int) + 4) = true := by simp; omega
          obtain ⟨gb, ao, len, cap, rfl, hgbS, hci, hvi, hlc, hcm, hce⟩ := book_open (unhide HROW) (unhide HTS) hk1 hE1 i0 (by omega)
          have HVI := hide hvi
          have HE1 := hide hE1
          clear hvi hce hE1
          go_wp2
          go_loopw [5] (fun j w2 => ∃ j0 : Nat, j0 ≤ len ∧ j = .int .i64 j0 ∧ BookC S o (C1 q) w2 ls ∧ Keeps S w w2) (fun j _ => len - (intOf j).toNat)
          case atStart => exact ⟨0, Nat.zero_le _, rfl, unhide HE1, hk1⟩
          case round =>
            obtain ⟨j0, hj0, rfl, hE2, hk2⟩ := hrel
            clear c3s hci hk1 HE1
            have c3t : wr.cell? ⟨p, 3, none⟩ = some (.slice (some ⟨gb, 0, none⟩) ls.length cb) := (hk2.cell (p := ⟨p, 3, none⟩) hpl hpS).trans c3
            obtain ⟨gb', ao', len', cap', hgb, _, hci, hvi, _, _, hce⟩ := book_open (unhide HROW) (unhide HTS) hk2 hE2 i0 (by omega)
            cases hgb
            rw [unhide HVI] at hvi
            cases hvi
            by_cases hjl : j0 < len
            · obtain ⟨g, off, u, rfl, hgS, hog, hcj, hfj, _⟩ := hce j0 hjl
              have hq4 : o g = q := by have := unhide HNQ; rw [hog]; omega
              have HQ := hide hq4
              have HE2 := hide hE2
              clear hce hog hq4 hE2
              go_wp2
              go_roundw
              case rel => exact ⟨j0 + 1, by omega, by go_num, book_store1 (unhide HE2) (unhide HQ), hk2.setCell (p := ⟨g, off + j0, none⟩) (.inl hgS) _⟩
              case measure => simp [intOf]; omega
            · have HE2 := hide hE2
              clear hce hE2
              go_wp2
              go_roundw
              case rel => exact ⟨i0 + 1, by omega, by omega, by go_num, unhide HE2, hk2⟩
              case measure => simp [intOf]; omega
        · have dB : decide ((i0 : Int) < (n : Int) + 4) = false := by simp; omega
          have HE1 := hide hE1
          clear hE1
          go_wp2
          go_loopw [6] (fun i w2 => ∃ i1 : Nat, i1 ≤ ls.length ∧ i = .int .i64 i1 ∧ BookC S o (C1 q) w2 ls ∧ Keeps S w w2) (fun i _ => ls.length - (intOf i).toNat)
          case atStart => exact ⟨0, Nat.zero_le _, rfl, unhide HE1, hk1⟩
          case round =>
            obtain ⟨i1, hi1, rfl, hE2, hk2⟩ := hrel
            clear c3s hk1 HE1
            have c3t : wr.cell? ⟨p, 3, none⟩ = some (.slice ab ls.length cb) := (hk2.cell (p := ⟨p, 3, none⟩) hpl hpS).trans c3
            by_cases hil1 : i1 < ls.length
            · have dC : decide ((i1 : Int) < (ls.length : Int)) = true := by simp; omega
              obtain ⟨gb, ao, len, cap, rfl, hgbS, hci, hvi, hlc, hcm, hce⟩ := book_open (unhide HROW) (unhide HTS) hk2 hE2 i1 hil1
              have HCE := hide hce
              have HE2 := hide hE2
              clear hvi hce hE2
              go_wp2
              go_loopw [7] (fun j w2 => ∃ j0 : Nat, j0 ≤ len ∧ j = .int .i64 j0 ∧ w2 = wr) (fun j _ => len - (intOf j).toNat)
              case atStart => exact ⟨0, Nat.zero_le _, rfl, rfl⟩
              case round =>
                obtain ⟨j0, hj0, rfl, rfl⟩ := hrel
                by_cases hjl : j0 < len
                · obtain ⟨g, off, u, rfl, hgS, hog, hcj, hfj, hu⟩ := unhide HCE j0 hjl
                  by_cases hin : n ≤ i1 ∧ i1 < n + 4
                  · have d1 : decide ((i1 : Int) < (n : Int)) = false := by simp; omega
                    have d2 : decide ((n : Int) + 4 ≤ (i1 : Int)) = false := by simp; omega
                    have HU := hide hu
                    have HO := hide hog
                    clear hu hog
                    go_wp2
                    go_roundw
                    case rel => exact ⟨j0 + 1, by omega, by go_num, trivial⟩
                    case measure => simp [intOf]; omega
                  · have hu := hu (fun e => hin (by have := unhide HNQ; omega))
                    have hb : ((200 + ((i1 / 4 : Nat) : Int) % 50) == 7) = false := by rw [beq_eq_false_iff_ne]; omega
                    unfold markOf at hu
                    subst hu
                    have HO := hide hog
                    clear hog
                    by_cases hlo : i1 < n
                    · have d1 : decide ((i1 : Int) < (n : Int)) = true := by simp; omega
                      go_wp2
                      go_roundw
                      case rel => exact ⟨j0 + 1, by omega, by go_num, trivial⟩
                      case measure => simp [intOf]; omega
                    · have d1 : decide ((i1 : Int) < (n : Int)) = false := by simp; omega
                      have d2 : decide ((n : Int) + 4 ≤ (i1 : Int)) = true := by simp; omega
                      go_wp2
                      go_roundw
                      case rel => exact ⟨j0 + 1, by omega, by go_num, trivial⟩
                      case measure => simp [intOf]; omega
                · go_wp2
                  go_roundw
                  case rel => exact ⟨i1 + 1, by omega, by go_num, unhide HE2, hk2⟩
                  case measure => simp [intOf]; omega
            · have dC : decide ((i1 : Int) < (ls.length : Int)) = false := by simp; omega
              have HE2 := hide hE2
              clear hE2
              go_wp2
              go_loopw [8] (fun i w2 => ∃ i2 : Nat, n ≤ i2 ∧ i2 ≤ n + 4 ∧ i = .int .i64 i2 ∧ BookC S o (C3 q i2 0) w2 ls ∧ Keeps S w w2) (fun i _ => n + 4 - (intOf i).toNat)
              case atStart =>
                refine ⟨n, Nat.le_refl _, by omega, rfl, (unhide HE2).weak (fun i j h => ?_), hk2⟩
                rcases h with h | h | h
                · exact h
                · show i / 4 ≠ q; have := unhide HNQ; omega
                · omega
              case round =>
                obtain ⟨i2, hi2, hi3, rfl, hE3, hk3⟩ := hrel
                clear c3t hk2 HE2
                have c3u : wr.cell? ⟨p, 3, none⟩ = some (.slice ab ls.length cb) := (hk3.cell (p := ⟨p, 3, none⟩) hpl hpS).trans c3
                by_cases hil2 : i2 < n + 4
                · have dD : decide ((i2 : Int) < (n : Int) + 4) = true := by simp; omega
                  obtain ⟨gb, ao, len, cap, rfl, hgbS, hci, hvi, hlc, hcm, hce⟩ := book_open (unhide HROW) (unhide HTS) hk3 hE3 i2 (by omega)
                  have HVI := hide hvi
                  have HE3 := hide hE3
                  clear hvi hce hE3
                  go_wp2
                  go_loopw [9] (fun j w2 => ∃ j0 : Nat, j0 ≤ len ∧ j = .int .i64 j0 ∧ BookC S o (C3 q i2 j0) w2 ls ∧ Keeps S w w2) (fun j _ => len - (intOf j).toNat)
                  case atStart => exact ⟨0, Nat.zero_le _, rfl, unhide HE3, hk3⟩
                  case round =>
                    obtain ⟨j0, hj0, rfl, hE4, hk4⟩ := hrel
                    clear c3u hci hk3 HE3
                    have c3v : wr.cell? ⟨p, 3, none⟩ = some (.slice (some ⟨gb, 0, none⟩) ls.length cb) := (hk4.cell (p := ⟨p, 3, none⟩) hpl hpS).trans c3
                    obtain ⟨gb', ao', len', cap', hgb, _, hci, hvi, _, _, hce⟩ := book_open (unhide HROW) (unhide HTS) hk4 hE4 i2 (by omega)
                    cases hgb
                    rw [unhide HVI] at hvi
                    cases hvi
                    by_cases hjl : j0 < len
                    · have dE : decide ((j0 : Int) < (len : Int)) = true := by simp; omega
                      obtain ⟨g, off, u, rfl, hgS, hog, hcj, hfj, _⟩ := hce j0 hjl
                      have hq4 : o g = q := by have := unhide HNQ; rw [hog]; omega
                      have hgp : g ≠ p := fun e => hpS (by rw [← e]; exact hgS)
                      have hggb : g ≠ gb := fun e => hgbS (by rw [← e]; exact hgS)
                      have HQ := hide hq4
                      have HE4 := hide hE4
                      clear hce hog hq4 hE4
                      have b1 : (0 : Int) ≤ (i2 : Int) := Int.natCast_nonneg _
                      have b2 : (i2 : Int) < (ls.length : Int) := by omega
                      have b3 : (0 : Int) ≤ (j0 : Int) := Int.natCast_nonneg _
                      have b4 : (j0 : Int) < (len : Int) := by omega
                      have hmk : Value.int .u8 (200 + (i2 : Int) / 4 % 50) = markOf q := by
                        unfold markOf
                        have : (i2 : Int) / 4 = (q : Int) := by have := unhide HNQ; omega
                        rw [this]
                      have HMK := hide hmk
                      clear hmk
                      go_wp2
                      go_region_held3 (fun w' => w'.cell? ⟨p, 3, none⟩ = some (.slice (some ⟨gb, 0, none⟩) ls.length cb) ∧ w'.cell? ⟨gb, i2, none⟩ = some (.slice (some ⟨g, off, none⟩) len cap)) (first | exact ⟨c3v, hci⟩ | exact apart_keep ⟨c3v, hci⟩ hgp hggb) ((go_at_call 81; refine (markByte_any i2 _ (by omega)).mono ?_; rintro e w' ⟨rfl, rfl⟩))
                      go_wp2
                      go_roundw
                      case rel =>
                        exact ⟨j0 + 1, by omega, by go_num, by rw [unhide HMK]; exact (book_store3 (unhide HE4) (unhide HQ) (unhide HVI)).keep (T := fun _ => False) (Keeps.refl _ _).drew (fun _ _ _ h => h), (hk4.setCell (p := ⟨g, off + j0, none⟩) (.inl hgS) _).drew⟩
                      case measure => simp [intOf]; omega
                    · have hjj : j0 = len := by omega
                      subst hjj
                      have HE4 := hide (book_next hE4 (unhide HVI))
                      clear hce hE4
                      go_wp2
                      go_roundw
                      case rel => exact ⟨i2 + 1, by omega, by omega, by go_num, unhide HE4, hk4⟩
                      case measure => simp [intOf]; omega
                · have hi4 : i2 = n + 4 := by omega
                  subst hi4
                  have HE3 := hide hE3
                  clear hE3
                  go_wp2
                  go_roundw
                  case rel =>
                    refine ⟨n + 4, q + 1, by have := unhide HNQ; omega, by omega, by go_num, (unhide HE3).weak (fun i j _ => ?_), hk3⟩
                    by_cases h : i / 4 = q
                    · exact .inr (.inl (by have := unhide HNQ; omega))
                    · exact .inl h
                  case measure => simp [intOf]; omega
    · go_wp2
      go_ret
      exact ⟨rfl, hk⟩

end Go.Proofs.YthbmmbgkchiajaaGreat
