
/- The calls on a journal that is open. -/
import Derived.Test.YthbmmbgkchiajaaGreatJCreate

namespace Go.Proofs.YthbmmbgkchiajaaGreat
set_option linter.unusedSimpArgs false
set_option linter.unusedVariables false
open Go.RowKit

set_option maxRecDepth 100000 in
set_option maxHeartbeats 400000 in
theorem append_long (pj n cap : Nat) (ao : Option Addr) (w : World) (hn : 40 < n) (hn' : n ≤ 9223372036854775807) :
    Calls Tryz.prog 186 #[.pointer (some ⟨pj, 0, none⟩), .slice ao n cap] w fun e w' => e = .returned (.tuple #[.int .i64 0, .int .i64 1]) ∧ w' = w := by
  go_enter Tryz.func186, Tryz.ntmps186
  go_wp2
  go_ret2
  exact ⟨rfl, rfl⟩

set_option maxRecDepth 100000 in
set_option maxHeartbeats 400000 in
theorem append_full (S : Nat → Prop) (pj pd ring per low next dur epoch n cap : Nat) (ao : Option Addr) (note : ByteArray) (m : DM) (w : World) (hJ : JD S w pj pd ring per low next dur epoch note m) (hn : n ≤ 40) (hp : 1 ≤ per ∧ per ≤ 16) (hr : ring ≤ 6)
    (hlow : 1 ≤ low) (hlow' : low < 4611686018427387904) (hnext : 1 ≤ next) (hnext' : next < 4611686018427387904) (hfull : (low - 1) / per + ring ≤ (next - 1) / per) :
    Calls Tryz.prog 186 #[.pointer (some ⟨pj, 0, none⟩), .slice ao n cap] w fun e w' => e = .returned (.tuple #[.int .i64 0, .int .i64 2]) ∧ Keeps (fun _ => False) w w' := by
  obtain ⟨vn, hat, _⟩ := hJ.at
  rename_i hx; clear hx
  obtain ⟨c0, c1, c2, c3, c4, c5, c6, c7⟩ := hat.cells
  have s1 := fun W h => segment_any pj per low W h hp.1 hp.2 hlow (by omega)
  have s2 := fun W h => segment_any pj per next W h hp.1 hp.2 hnext (by omega)
  have b1 := Nat.div_le_self (low - 1) per
  have b2 := Nat.div_le_self (next - 1) per
  generalize (low - 1) / per = A at *
  generalize (next - 1) / per = B at *
  have H1 := hide s1
  have H2 := hide s2
  have hge : decide ((ring : Int) ≤ (B : Int) - (A : Int)) = true := by simp; omega
  clear hJ hat s1 s2
  go_enter Tryz.func186, Tryz.ntmps186
  go_wp2
  go_quiet (first | (go_at_call_of 256 (Value.int IntKind.i64 (low : Int)); exact Calls.quiet_of_same (unhide H1 _ c2)) | (go_at_call_of 256 (Value.int IntKind.i64 (next : Int)); exact Calls.quiet_of_same (unhide H2 _ c2)))
  go_wp2
  go_ret2
  exact ⟨rfl, (Keeps.refl _ w).drewN _⟩

set_option maxRecDepth 100000 in
set_option maxHeartbeats 400000 in
theorem append_yes (S T : Nat → Prop) (pj pd ring per low next dur epoch cap : Nat) (ao : Option Addr) (s note : ByteArray) (m : DM) (w : World) (hJ : JD S w pj pd ring per low next dur epoch note m) (hm : m.ok) (hN : (m.puts.length + 1) * 72 ≤ 140737488355328) (hs : s.size ≤ 40) (hv : Bytes T w (.slice ao s.size cap) s) (hp : 1 ≤ per ∧ per ≤ 16) (hr : ring ≤ 6)
    (hC : 1 ≤ ring * per ∧ ring * per ≤ 96) (hroom : ring * per + 2 ≤ m.dur.length) (hlow : 1 ≤ low) (hlow' : low < 4611686018427387904) (hnext : 1 ≤ next) (hnext' : next < 4611686018427387904) (hfull : (next - 1) / per < (low - 1) / per + ring) :
    Calls Tryz.prog 186 #[.pointer (some ⟨pj, 0, none⟩), .slice ao s.size cap] w fun e w' => e = .returned (.tuple #[.int .i64 (next : Int), .int .i64 0]) ∧ JD (fun k => S k ∨ w.heap.size ≤ k) w' pj pd ring per low (next + 1) dur epoch note (m.put (slot ring per next) (packB next 0 s)) ∧ Keeps S w w' := by
  obtain ⟨D, J, vn, h1, h2, h3, h4, h5, h6, h7⟩ := hJ
  obtain ⟨c0, c1, c2, c3, c4, c5, c6, c7⟩ := h5.cells
  have s1 := fun W h => segment_any pj per low W h hp.1 hp.2 hlow (by omega)
  have s2 := fun W h => segment_any pj per next W h hp.1 hp.2 hnext (by omega)
  have b1 := Nat.div_le_self (low - 1) per
  have b2 := Nat.div_le_self (next - 1) per
  have hsl : slot ring per next < m.dur.length := by have := slot_lt ring per next (by omega); omega
  have HSec : Hid (∀ W : World, W.cell? ⟨pj, 1, none⟩ = some (.int .i64 (ring : Int)) → W.cell? ⟨pj, 2, none⟩ = some (.int .i64 (per : Int)) → Calls Tryz.prog 257 #[.pointer (some ⟨pj, 0, none⟩), .int .i64 (next : Int)] W fun e w' => e = .returned (.int .i64 ((slot ring per next : Nat) : Int)) ∧ Keeps (fun _ => False) W w') := hide fun W h1 h2 => jsector_any pj ring per next W h1 h2 hC hnext (by omega)
  generalize (low - 1) / per = A at *
  generalize (next - 1) / per = B at *
  have H1 := hide s1
  have H2 := hide s2
  have hge : decide ((ring : Int) ≤ (B : Int) - (A : Int)) = false := by simp; omega
  have HSL := hide hsl
  have hpl := h5.lt
  have HM := hide hm
  have HV := hide hv
  have HH := hide h5
  have HDD := hide (Two.mono (T := fun k => D k ∧ k < w.heap.size) h4 (fun k l d => ⟨d, l⟩) : PDisk (fun k => D k ∧ k < w.heap.size) w pd m)
  have HB := hide h7
  have H6 := hide h6
  have HS : Hid ((packB next 0 s).size = 64) := hide (packB_size _ _ _ (by omega))
  clear h4 h5 h6 h7 s1 s2 hsl hm hv hC hroom
  generalize slot ring per next = q at *
  go_enter Tryz.func186, Tryz.ntmps186
  go_wp2
  go_quiet (first | (go_at_call_of 256 (Value.int IntKind.i64 (low : Int)); exact Calls.quiet_of_same (unhide H1 _ c2)) | (go_at_call_of 256 (Value.int IntKind.i64 (next : Int)); exact Calls.quiet_of_same (unhide H2 _ c2)))
  have hkq : Keeps (fun _ => False) w (w.drewN nq) := (Keeps.refl _ w).drewN nq
  generalize w.drewN nq = wq at *
  have HHq := hide ((unhide HH).keep hkq (fun f => f))
  have HDq := hide (Two.keep (unhide HDD) hkq (fun _ _ _ f => f))
  have HVq := hide ((unhide HV).keep hkq (fun _ _ _ f => f))
  have HKq := hide hkq
  have hsq := hkq.size
  clear hkq c0 c1 c2 c3 c4 c5 c6 c7
  obtain ⟨c0, c1, c2, c3, c4, c5, c6, c7⟩ := (unhide HHq).cells
  go_wp2
  go_region_held3 (fun w' => w'.cell? ⟨pj, 0, none⟩ = some (.pointer (some ⟨pd, 0, none⟩))) (first | exact c0 | exact d0 | exact e0 | exact f0) (first
    | (go_at_call 257
       refine (unhide HSec wq.drew c1 c2).mono ?_
       rintro e w1 ⟨rfl, hk1⟩
       have hk1' : Keeps (fun _ => False) wq w1 := ⟨hk1.os, hk1.tape, hk1.output, hk1.size, hk1.block⟩
       have HH1 := hide ((unhide HHq).keep hk1' (fun f => f))
       obtain ⟨d0, d1, d2, d3, d4, d5, d6, d7⟩ := (unhide HH1).cells
       have HD1 := hide (Two.keep (unhide HDq) hk1' (fun _ _ _ f => f))
       have HV1 := hide ((unhide HVq).keep hk1' (fun _ _ _ f => f))
       have HK1 := hide ((unhide HKq).trans hk1' (fun _ _ f => f))
       have hs1 := hk1'.size
       clear hk1 hk1')
    | (go_at_call 258
       refine (pack_any T next 0 _ s w1 (by omega) (by omega) hs (unhide HV1)).mono ?_
       rintro e w2 ⟨rfl, hg, hk2⟩
       have HG := hide hg
       have HH2 := hide ((unhide HH1).keep hk2 (fun f => f))
       obtain ⟨e0, e1, e2, e3, e4, e5, e6, e7⟩ := (unhide HH2).cells
       have HD2 := hide (Two.keep (unhide HD1) hk2 (fun _ _ _ f => f))
       have HK2 := hide ((unhide HK1).trans hk2 (fun _ _ f => f))
       have hs2 := hk2.size
       clear hg hk2)
    | (go_at_call 190
       refine (dWrite_yes (fun k => D k ∧ k < w.heap.size) pd m q w1.heap.size 64 (packB next 0 s) w2 (unhide HD2) (unhide HM) (unhide HSL) (unhide HS) hN (by have hg := unhide HG; intro j u hj; rw [Nat.zero_add]; exact (cell_of_heap hg).trans (by simpa using hj)) (lt_of_heap (unhide HG)) (fun h => by omega) (by omega)).mono ?_
       rintro e w3 ⟨rfl, hd3, hk3⟩
       have h53 := (unhide HH2).keep hk3 (fun d => h3 _ d.1 (unhide H6))
       obtain ⟨f0, f1, f2, f3, f4, f5, f6, f7⟩ := h53.cells
       have hf4 := h53.frozen 4
       have HJD : Hid (JD (fun k => S k ∨ w.heap.size ≤ k) w3 pj pd ring per low next dur epoch note (m.put q (packB next 0 s))) := hide ⟨fun k => (D k ∧ k < w.heap.size) ∨ w2.heap.size ≤ k, fun k => J k ∧ k < w.heap.size, vn, (fun k d => by rcases d with d | d; (exact .inl (h1 k d.1)); (exact .inr (by omega))), (fun k d => .inl (h2 k d.1)), (fun k d d' => by rcases d with d | d; (exact h3 k d.1 d'.1); omega), hd3, h53, ⟨unhide H6, hpl⟩, ((unhide HB).mono (fun k l d => ⟨⟨d.1, l⟩, d.2⟩)).keep ((unhide HK2).mono (T := fun k => D k ∧ k < w.heap.size) (fun _ _ f => f.elim) |>.trans hk3 (fun _ _ d => d)) (fun k _ d d' => h3 k d'.1 d.1.1)⟩
       have HK3 := hide (((unhide HK2).mono (T := S) (fun _ _ f => f.elim)).trans hk3 (fun k _ d => h1 k d.1))
       clear h53 hd3 hk3))
  go_wp2
  go_ret2
  refine ⟨rfl, (unhide HJD).setNext (next + 1), (unhide HK3).setCell (p := ⟨pj, 4, none⟩) (.inl (h2 _ (unhide H6))) _⟩

set_option maxRecDepth 100000 in
set_option maxHeartbeats 400000 in
theorem force_bad (S : Nat → Prop) (pj pd ring per low next dur epoch : Nat) (n : Int) (note : ByteArray) (m : DM) (w : World) (hJ : JD S w pj pd ring per low next dur epoch note m) (hn : n < 0 ∨ (next : Int) ≤ n) :
    Calls Tryz.prog 187 #[.pointer (some ⟨pj, 0, none⟩), .int .i64 n] w fun e w' => e = .returned (.int .i64 1) ∧ w' = w := by
  obtain ⟨vn, hat, _⟩ := hJ.at
  rename_i hx; clear hx
  obtain ⟨c0, c1, c2, c3, c4, c5, c6, c7⟩ := hat.cells
  clear hJ hat
  by_cases h0 : n < 0
  · have g0 : decide (n < 0) = true := by simpa using h0
    clear hn
    go_enter Tryz.func187, Tryz.ntmps187
    go_wp2
    go_ret
    exact ⟨rfl, rfl⟩
  · have g0 : decide (n < 0) = false := by simpa using h0
    have h1 : (next : Int) ≤ n := by omega
    have g1 : decide ((next : Int) ≤ n) = true := by simpa using h1
    clear hn
    go_enter Tryz.func187, Tryz.ntmps187
    go_wp2
    go_ret
    exact ⟨rfl, rfl⟩

set_option maxRecDepth 100000 in
set_option maxHeartbeats 400000 in
theorem force_old (S : Nat → Prop) (pj pd ring per low next dur epoch n : Nat) (note : ByteArray) (m : DM) (w : World) (hJ : JD S w pj pd ring per low next dur epoch note m) (hn : n < next) (hd : n ≤ dur) :
    Calls Tryz.prog 187 #[.pointer (some ⟨pj, 0, none⟩), .int .i64 (n : Int)] w fun e w' => e = .returned (.int .i64 0) ∧ w' = w := by
  obtain ⟨vn, hat, _⟩ := hJ.at
  rename_i hx; clear hx
  obtain ⟨c0, c1, c2, c3, c4, c5, c6, c7⟩ := hat.cells
  have g0 : decide ((n : Int) < 0) = false := by simp
  have g1 : decide ((next : Int) ≤ (n : Int)) = false := by simp; omega
  have g2 : decide ((dur : Int) < (n : Int)) = false := by simp; omega
  clear hJ hat
  go_enter Tryz.func187, Tryz.ntmps187
  go_wp2
  go_ret
  exact ⟨rfl, rfl⟩

set_option maxRecDepth 100000 in
set_option maxHeartbeats 400000 in
theorem force_new (S : Nat → Prop) (pj pd ring per low next dur epoch n : Nat) (note : ByteArray) (m : DM) (w : World) (hJ : JD S w pj pd ring per low next dur epoch note m) (hm : m.ok) (hN : m.puts.length * 72 ≤ 140737488355328) (hy : m.syncs < 9223372036854775807) (hn : n < next) (hd : dur < n) (hn' : next < 9223372036854775807) :
    Calls Tryz.prog 187 #[.pointer (some ⟨pj, 0, none⟩), .int .i64 (n : Int)] w fun e w' => e = .returned (.int .i64 0) ∧ JD S w' pj pd ring per low next (next - 1) epoch note m.sync ∧ Keeps S w w' := by
  obtain ⟨vn, hat, _⟩ := hJ.at
  rename_i hx; clear hx
  obtain ⟨c0, c1, c2, c3, c4, c5, c6, c7⟩ := hat.cells
  have g0 : decide ((n : Int) < 0) = false := by simp
  have g1 : decide ((next : Int) ≤ (n : Int)) = false := by simp; omega
  have g2 : decide ((dur : Int) < (n : Int)) = true := by simp; omega
  have HC := hide (jsync_any S pj pd ring per low next dur epoch note m w hJ hm hN hy (by omega) hn')
  clear hJ hat hm
  go_enter Tryz.func187, Tryz.ntmps187
  go_wp2_with fail
  go_at_call 259
  refine (unhide HC).mono ?_
  rintro e w1 ⟨rfl, hj, hk⟩
  have HJ1 := hide hj
  have HK1 := hide hk
  clear hj hk
  go_wp2
  go_ret
  exact ⟨rfl, unhide HJ1, unhide HK1⟩

set_option maxRecDepth 100000 in
set_option maxHeartbeats 400000 in
theorem truncate_bad (S : Nat → Prop) (pj pd ring per low next dur epoch n cap : Nat) (ao : Option Addr) (x : Int) (note : ByteArray) (m : DM) (w : World) (hJ : JD S w pj pd ring per low next dur epoch note m) (hn : x < (low : Int) ∨ (next : Int) < x ∨ 40 < n) (hn' : n ≤ 9223372036854775807) :
    Calls Tryz.prog 200 #[.pointer (some ⟨pj, 0, none⟩), .int .i64 x, .slice ao n cap] w fun e w' => e = .returned (.int .i64 1) ∧ w' = w := by
  obtain ⟨vn, hat, _⟩ := hJ.at
  rename_i hx; clear hx
  obtain ⟨c0, c1, c2, c3, c4, c5, c6, c7⟩ := hat.cells
  clear hJ hat
  by_cases h0 : x < (low : Int)
  · have g0 : decide (x < (low : Int)) = true := by simpa using h0
    clear hn
    go_enter Tryz.func200, Tryz.ntmps200
    go_wp2
    go_ret
    exact ⟨rfl, rfl⟩
  · have g0 : decide (x < (low : Int)) = false := by simpa using h0
    by_cases h1 : (next : Int) < x
    · have g1 : decide ((next : Int) < x) = true := by simpa using h1
      clear hn
      go_enter Tryz.func200, Tryz.ntmps200
      go_wp2
      go_ret
      exact ⟨rfl, rfl⟩
    · have g1 : decide ((next : Int) < x) = false := by simpa using h1
      have h2 : 40 < n := by omega
      have g2 : decide ((40 : Int) < (n : Int)) = true := by simp; omega
      clear hn
      go_enter Tryz.func200, Tryz.ntmps200
      go_wp2
      go_ret
      exact ⟨rfl, rfl⟩

set_option maxRecDepth 100000 in
set_option maxHeartbeats 400000 in
theorem truncate_yes (S T : Nat → Prop) (pj pd ring per low next dur epoch cap x : Nat) (ao : Option Addr) (s note : ByteArray) (m : DM) (w : World) (hJ : JD S w pj pd ring per low next dur epoch note m) (hm : m.ok) (hN : (m.puts.length + 1) * 72 ≤ 140737488355328) (hy : m.syncs < 9223372036854775807) (hx0 : low ≤ x) (hx1 : x ≤ next) (hs : s.size ≤ 40) (hv : Bytes T w (.slice ao s.size cap) s) (hTpj : ¬ T pj)
    (hlow : 1 ≤ low) (hnext' : next < 4611686018427387904) (h2d : 2 ≤ m.dur.length) (hep : epoch < 4611686018427387904) :
    Calls Tryz.prog 200 #[.pointer (some ⟨pj, 0, none⟩), .int .i64 (x : Int), .slice ao s.size cap] w fun e w' => e = .returned (.int .i64 0) ∧ JD (fun k => S k ∨ w.heap.size ≤ k) w' pj pd ring per x next (next - 1) epoch s ((m.put 1 (packB x epoch s)).sync) ∧ Keeps S w w' := by
  obtain ⟨vn, hat, _⟩ := hJ.at
  rename_i hx; clear hx
  obtain ⟨c0, c1, c2, c3, c4, c5, c6, c7⟩ := hat.cells
  have hfz := hat.frozen 3
  have hpl := hat.lt
  have g0 : decide ((x : Int) < (low : Int)) = false := by simp; omega
  have g1 : decide ((next : Int) < (x : Int)) = false := by simp; omega
  have g2 : decide ((40 : Int) < (s.size : Int)) = false := by simp; omega
  have hown := hJ.own
  have hk1 : Keeps (fun k => k = pj) w (w.setCell ⟨pj, 3, none⟩ (.int .i64 (x : Int))) := (Keeps.refl (fun k => k = pj) w).setCell (p := ⟨pj, 3, none⟩) (.inl rfl) _
  have HJ1 := hide (hJ.setLow x)
  have HV1 := hide (hv.keep hk1 (fun k _ t e => hTpj (by rw [← e]; exact t)))
  have HK1 := hide (hk1.mono (T := S) (fun k _ e => by rw [e]; exact hown.1))
  have hs1 := hk1.size
  have HM := hide hm
  clear hJ hat hm hv hk1
  go_enter Tryz.func200, Tryz.ntmps200
  go_wp2_with fail
  generalize w.setCell ⟨pj, 3, none⟩ (.int .i64 (x : Int)) = w1 at *
  go_at_call 261
  refine (bClone_any T _ s w1 (unhide HV1) hs).mono ?_
  rintro e w2 ⟨v', rfl, hb2, hk2⟩
  obtain ⟨ao2, cap2, rfl⟩ : ∃ ao2 cap2, v' = .slice ao2 s.size cap2 := by
    obtain ⟨a, c, h, _⟩ := hb2
    exact ⟨a, c, h⟩
  have hat2 : ∃ vn2, JAt w2 pj pd ring per x next dur epoch vn2 := by
    obtain ⟨vn2, h, _⟩ := (unhide HJ1).at
    exact ⟨vn2, h.keep hk2 (fun f => f)⟩
  obtain ⟨vn2, hat2⟩ := hat2
  obtain ⟨d0, d1, d2, d3, d4, d5, d6, d7⟩ := hat2.cells
  have hf7 := hat2.frozen 7
  have HJ2 := hide ((unhide HJ1).setNote hk2 hb2)
  have HK2 := hide ((((unhide HK1).trans (hk2.mono (T := S) (fun _ _ f => f.elim)) (fun _ _ h => h))).setCell (p := ⟨pj, 7, none⟩) (.inl hown.1) (.slice ao2 s.size cap2))
  have hs2 := hk2.size
  clear hat2 hk2 hb2
  go_wp2_with fail
  generalize w2.setCell ⟨pj, 7, none⟩ (.slice ao2 s.size cap2) = w3 at *
  go_at_call 262
  refine (save_any _ pj pd ring per x next dur epoch s m w3 (unhide HJ2) (unhide HM) hN hy (by omega) (by omega) h2d (by omega) hep hs).mono ?_
  rintro e w4 ⟨rfl, hj4, hk4⟩
  have HJ4 := hide hj4
  have HK4 := hide hk4
  clear hj4 hk4
  go_wp2
  go_ret
  have hs3 := (unhide HK2).size
  refine ⟨rfl, (unhide HJ4).mono (fun k l h => ?_), (unhide HK2).trans (unhide HK4) (fun k hk h => ?_)⟩
  · rcases h with (h | h) | h
    · exact .inl h
    · exact .inr (by omega)
    · exact .inr (by omega)
  · rcases h with h | h
    · exact h
    · omega

set_option maxRecDepth 100000 in
set_option maxHeartbeats 400000 in
theorem read_bad (S : Nat → Prop) (pj pd ring per low next dur epoch : Nat) (n : Int) (note : ByteArray) (m : DM) (w : World) (hJ : JD S w pj pd ring per low next dur epoch note m) (hn : n < (low : Int) ∨ (next : Int) ≤ n) :
    Calls Tryz.prog 202 #[.pointer (some ⟨pj, 0, none⟩), .int .i64 n] w fun e w' => e = .returned (.tuple #[.slice none 0 0, .int .i64 1]) ∧ w' = w := by
  obtain ⟨vn, hat, _⟩ := hJ.at
  rename_i hx; clear hx
  obtain ⟨c0, c1, c2, c3, c4, c5, c6, c7⟩ := hat.cells
  clear hJ hat
  by_cases h0 : n < (low : Int)
  · have g0 : decide (n < (low : Int)) = true := by simpa using h0
    clear hn
    go_enter Tryz.func202, Tryz.ntmps202
    go_wp2
    go_ret2
    exact ⟨rfl, rfl⟩
  · have g0 : decide (n < (low : Int)) = false := by simpa using h0
    have h1 : (next : Int) ≤ n := by omega
    have g1 : decide ((next : Int) ≤ n) = true := by simpa using h1
    clear hn
    go_enter Tryz.func202, Tryz.ntmps202
    go_wp2
    go_ret2
    exact ⟨rfl, rfl⟩

set_option maxRecDepth 100000 in
set_option maxHeartbeats 400000 in
theorem read_yes (S : Nat → Prop) (pj pd ring per low next dur epoch n a b : Nat) (t note : ByteArray) (m : DM) (w : World) (hJ : JD S w pj pd ring per low next dur epoch note m) (hm : m.ok) (hN : m.puts.length * 72 ≤ 140737488355328)
    (hC : 1 ≤ ring * per ∧ ring * per ≤ 96) (hroom : ring * per + 2 ≤ m.dur.length) (h1 : 1 ≤ n) (h0 : low ≤ n) (hn : n < next) (hn' : next < 4611686018427387904) (hr : m.read (slot ring per n) = packB a b t) (ht : t.size ≤ 40) (ha : a < 4611686018427387904) (hb : b < 4611686018427387904) :
    Calls Tryz.prog 202 #[.pointer (some ⟨pj, 0, none⟩), .int .i64 (n : Int)] w fun e w' => ∃ g, e = .returned (.tuple #[.slice (some ⟨g, 17, none⟩) t.size 47, .int .i64 0]) ∧ w.heap.size ≤ g ∧ w'.heap[g]? = some (.cells (bcells (packB a b t)).toArray 305 (0, 0)) ∧ Keeps (fun _ => False) w w' := by
  obtain ⟨vn, hat, _⟩ := hJ.at
  rename_i hx; clear hx
  obtain ⟨c0, c1, c2, c3, c4, c5, c6, c7⟩ := hat.cells
  have g0 : decide ((n : Int) < (low : Int)) = false := by simp; omega
  have g1 : decide ((next : Int) ≤ (n : Int)) = false := by simp; omega
  have HS := hide (stored_any S pj pd ring per low next dur epoch n a b vn t m w hat hJ.disk hm hN hC hroom h1 (by omega) hr ht ha hb)
  clear hJ hat hm hr hC hroom
  go_enter Tryz.func202, Tryz.ntmps202
  go_wp2_with fail
  go_at_call 263
  refine (unhide HS).mono ?_
  rintro e w1 ⟨g, rfl, hg, hgg, hk⟩
  have HG := hide hgg
  have HK := hide hk
  have HGS := hide hg
  clear hgg hk hg
  go_wp2
  go_ret2
  exact ⟨g, rfl, unhide HGS, unhide HG, unhide HK⟩

set_option maxRecDepth 100000 in
set_option maxHeartbeats 400000 in
theorem jLow_any (pj : Nat) (x : Int) (w : World) (h : w.cell? ⟨pj, 3, none⟩ = some (.int .i64 x)) : Calls Tryz.prog 152 #[.pointer (some ⟨pj, 0, none⟩)] w fun e w' => e = .returned (.int .i64 x) ∧ w' = w := by
  go_enter Tryz.func152, Tryz.ntmps152
  go_wp2
  go_ret
  exact ⟨rfl, rfl⟩
set_option maxRecDepth 100000 in
set_option maxHeartbeats 400000 in
theorem jNext_any (pj : Nat) (x : Int) (w : World) (h : w.cell? ⟨pj, 4, none⟩ = some (.int .i64 x)) : Calls Tryz.prog 153 #[.pointer (some ⟨pj, 0, none⟩)] w fun e w' => e = .returned (.int .i64 x) ∧ w' = w := by
  go_enter Tryz.func153, Tryz.ntmps153
  go_wp2
  go_ret
  exact ⟨rfl, rfl⟩
set_option maxRecDepth 100000 in
set_option maxHeartbeats 400000 in
theorem jDurable_any (pj : Nat) (x : Int) (w : World) (h : w.cell? ⟨pj, 5, none⟩ = some (.int .i64 x)) : Calls Tryz.prog 264 #[.pointer (some ⟨pj, 0, none⟩)] w fun e w' => e = .returned (.int .i64 x) ∧ w' = w := by
  go_enter Tryz.func264, Tryz.ntmps264
  go_wp2
  go_ret
  exact ⟨rfl, rfl⟩
set_option maxRecDepth 100000 in
set_option maxHeartbeats 400000 in
theorem jEpoch_any (pj : Nat) (x : Int) (w : World) (h : w.cell? ⟨pj, 6, none⟩ = some (.int .i64 x)) : Calls Tryz.prog 222 #[.pointer (some ⟨pj, 0, none⟩)] w fun e w' => e = .returned (.int .i64 x) ∧ w' = w := by
  go_enter Tryz.func222, Tryz.ntmps222
  go_wp2
  go_ret
  exact ⟨rfl, rfl⟩
set_option maxRecDepth 100000 in
set_option maxHeartbeats 400000 in
theorem jNote_any (S : Nat → Prop) (pj pd ring per low next dur epoch : Nat) (note : ByteArray) (m : DM) (w : World) (hJ : JD S w pj pd ring per low next dur epoch note m) (hn : note.size ≤ 40) :
    Calls Tryz.prog 242 #[.pointer (some ⟨pj, 0, none⟩)] w fun e w' => ∃ v', e = .returned v' ∧ Bytes (fun k => w.heap.size ≤ k) w' v' note ∧ Keeps (fun _ => False) w w' := by
  obtain ⟨vn, hat, hB⟩ := hJ.at
  obtain ⟨c0, c1, c2, c3, c4, c5, c6, c7⟩ := hat.cells
  have HC := hide (bClone_any S vn note w hB hn)
  clear hJ hat hB
  go_enter Tryz.func242, Tryz.ntmps242
  go_wp2_with fail
  go_at_call 261
  refine (unhide HC).mono ?_
  rintro e w1 ⟨v', rfl, hb, hk⟩
  have HB := hide hb
  have HK := hide hk
  clear hb hk
  go_wp2
  go_ret
  exact ⟨v', rfl, unhide HB, unhide HK⟩

end Go.Proofs.YthbmmbgkchiajaaGreat

/- A journal in use, in memory; its calls, by what they do to it. -/
namespace Go.Proofs.YthbmmbgkchiajaaGreat
set_option linter.unusedSimpArgs false
set_option linter.unusedVariables false
open Go.RowKit

theorem InUse.fewPuts {j : JM} {m : DM} (h : InUse j m) : (m.puts.length + 101) * 72 ≤ 140737488355328 := by
  have h1 := h.ok.span
  have h2 := h.safe
  have h3 := h.ok.pos
  have h4 := h.putsLen
  have h5 : m.puts.length + 101 ≤ 198 := by omega
  exact Nat.le_trans (Nat.mul_le_mul_right 72 h5) (by omega)

def JUse (S : Nat → Prop) (w : World) (pj pd : Nat) (j : JM) (m : DM) : Prop := JD S w pj pd j.ring j.per j.low (j.L.length + 1) j.safe j.epoch j.note m ∧ InUse j m ∧ m.ok

theorem JUse.mono {S T : Nat → Prop} {w : World} {pj pd : Nat} {j : JM} {m : DM} (h : JUse S w pj pd j m) (hs : ∀ k, k < w.heap.size → S k → T k) : JUse T w pj pd j m := ⟨h.1.mono hs, h.2⟩
theorem JUse.keep {S T : Nat → Prop} {w w' : World} {pj pd : Nat} {j : JM} {m : DM} (h : JUse S w pj pd j m) (hk : Keeps T w w') (hd : ∀ k, k < w.heap.size → S k → ¬ T k) : JUse S w' pj pd j m := ⟨h.1.keep hk hd, h.2⟩
theorem JUse.at {S : Nat → Prop} {w : World} {pj pd : Nat} {j : JM} {m : DM} (h : JUse S w pj pd j m) : ∃ vn, JAt w pj pd j.ring j.per j.low (j.L.length + 1) j.safe j.epoch vn := by
  obtain ⟨vn, h, _⟩ := h.1.at
  exact ⟨vn, h⟩

/-- Is there no room? -/
def JM.full (j : JM) : Prop := (j.low - 1) / j.per + j.ring ≤ j.L.length / j.per
instance (j : JM) : Decidable j.full := by unfold JM.full; infer_instance

theorem use_append_full (S : Nat → Prop) (pj pd n cap : Nat) (ao : Option Addr) (j : JM) (m : DM) (w : World) (h : JUse S w pj pd j m) (hn : n ≤ 40) (hf : j.full) :
    Calls Tryz.prog 186 #[.pointer (some ⟨pj, 0, none⟩), .slice ao n cap] w fun e w' => e = .returned (.tuple #[.int .i64 0, .int .i64 2]) ∧ Keeps (fun _ => False) w w' := by
  have h1 := h.2.1.ok.low
  have h2 := h.2.1.ok.few
  exact append_full S pj pd j.ring j.per j.low (j.L.length + 1) j.safe j.epoch n cap ao j.note m w h.1 hn ⟨by have := h.2.1.ok.per; omega, h.2.1.ok.per.2⟩ h.2.1.ok.ring.2 h1.1 (by omega) (by omega) (by omega) (by rw [Nat.add_sub_cancel]; exact hf)

theorem use_append_yes (S T : Nat → Prop) (pj pd cap : Nat) (ao : Option Addr) (s : ByteArray) (j : JM) (m : DM) (w : World) (h : JUse S w pj pd j m) (hs : s.size ≤ 40) (hv : Bytes T w (.slice ao s.size cap) s) (hf : ¬ j.full) (hfew : j.L.length + 1 < 2305843009213693952) :
    Calls Tryz.prog 186 #[.pointer (some ⟨pj, 0, none⟩), .slice ao s.size cap] w fun e w' => e = .returned (.tuple #[.int .i64 ((j.L.length + 1 : Nat) : Int), .int .i64 0]) ∧ JUse (fun k => S k ∨ w.heap.size ≤ k) w' pj pd { j with L := j.L ++ [s] } (m.put (slot j.ring j.per (j.L.length + 1)) (packB (j.L.length + 1) 0 s)) ∧ Keeps S w w' := by
  have h1 := h.2.1.ok.low
  have h2 := h.2.1.ok.few
  have h3 := h.2.1.ok.pos
  have h4 := h.2.1.room
  have h5 := slot_lt j.ring j.per (j.L.length + 1) (by omega)
  have hf' : j.L.length / j.per < (j.low - 1) / j.per + j.ring := by unfold JM.full at hf; omega
  refine (append_yes S T pj pd j.ring j.per j.low (j.L.length + 1) j.safe j.epoch cap ao s j.note m w h.1 h.2.2 (seven_le _ 1 _ h.2.1.fewPuts (by omega)) hs hv ⟨by have := h.2.1.ok.per; omega, h.2.1.ok.per.2⟩ h.2.1.ok.ring.2 ⟨by omega, h3.2⟩ h4 h1.1 (by omega) (by omega) (by omega) (by rw [Nat.add_sub_cancel]; exact hf')).mono ?_
  rintro e w' ⟨e1, e2, e3⟩
  refine ⟨e1, ⟨?_, h.2.1.append hs hf' hfew, DM.put_ok h.2.2 (by omega) (packB_size _ _ _ (by omega))⟩, e3⟩
  have e : ({ j with L := j.L ++ [s] } : JM).L.length = j.L.length + 1 := by simp
  rw [e]
  exact e2

theorem use_force_new (S : Nat → Prop) (pj pd n : Nat) (j : JM) (m : DM) (w : World) (h : JUse S w pj pd j m) (hy : m.syncs < 9223372036854775807) (hn : n ≤ j.L.length) (hd : j.safe < n) :
    Calls Tryz.prog 187 #[.pointer (some ⟨pj, 0, none⟩), .int .i64 (n : Int)] w fun e w' => e = .returned (.int .i64 0) ∧ JUse S w' pj pd { j with safe := j.L.length } m.sync ∧ Keeps S w w' := by
  have h2 := h.2.1.ok.few
  refine (force_new S pj pd j.ring j.per j.low (j.L.length + 1) j.safe j.epoch n j.note m w h.1 h.2.2 (seven_le0 _ _ h.2.1.fewPuts) hy (by omega) hd (by omega)).mono ?_
  rintro e w' ⟨e1, e2, e3⟩
  rw [Nat.add_sub_cancel] at e2
  exact ⟨e1, ⟨e2, h.2.1.force, DM.sync_ok h.2.2⟩, e3⟩

theorem use_force_old (S : Nat → Prop) (pj pd n : Nat) (j : JM) (m : DM) (w : World) (h : JUse S w pj pd j m) (hn : n ≤ j.L.length) (hd : n ≤ j.safe) :
    Calls Tryz.prog 187 #[.pointer (some ⟨pj, 0, none⟩), .int .i64 (n : Int)] w fun e w' => e = .returned (.int .i64 0) ∧ w' = w :=
  force_old S pj pd j.ring j.per j.low (j.L.length + 1) j.safe j.epoch n j.note m w h.1 (by omega) hd

theorem use_truncate (S T : Nat → Prop) (pj pd cap x : Nat) (ao : Option Addr) (s : ByteArray) (j : JM) (m : DM) (w : World) (h : JUse S w pj pd j m) (hy : m.syncs < 9223372036854775807) (hx0 : j.low ≤ x) (hx1 : x ≤ j.L.length + 1) (hs : s.size ≤ 40) (hv : Bytes T w (.slice ao s.size cap) s) (hT : ¬ T pj) :
    Calls Tryz.prog 200 #[.pointer (some ⟨pj, 0, none⟩), .int .i64 (x : Int), .slice ao s.size cap] w fun e w' => e = .returned (.int .i64 0) ∧ JUse (fun k => S k ∨ w.heap.size ≤ k) w' pj pd { j with low := x, note := s, safe := j.L.length } ((m.put 1 (packB x j.epoch s)).sync) ∧ Keeps S w w' := by
  have h1 := h.2.1.ok.low
  have h2 := h.2.1.ok.few
  have h4 := h.2.1.room
  refine (truncate_yes S T pj pd j.ring j.per j.low (j.L.length + 1) j.safe j.epoch cap x ao s j.note m w h.1 h.2.2 (seven_le _ 1 _ h.2.1.fewPuts (by omega)) hy hx0 hx1 hs hv hT h1.1 (by omega) (by omega) (by omega)).mono ?_
  rintro e w' ⟨e1, e2, e3⟩
  rw [Nat.add_sub_cancel] at e2
  exact ⟨e1, ⟨e2, h.2.1.truncate hx0 hx1 hs, DM.sync_ok (DM.put_ok h.2.2 (by omega) (packB_size _ _ _ (by omega)))⟩, e3⟩

theorem use_read (S : Nat → Prop) (pj pd n : Nat) (j : JM) (m : DM) (w : World) (h : JUse S w pj pd j m) (h0 : j.low ≤ n) (hn : n ≤ j.L.length) :
    Calls Tryz.prog 202 #[.pointer (some ⟨pj, 0, none⟩), .int .i64 (n : Int)] w fun e w' => ∃ g cs, e = .returned (.tuple #[.slice (some ⟨g, 17, none⟩) (j.L.getD (n - 1) ByteArray.empty).size 47, .int .i64 0]) ∧ w.heap.size ≤ g ∧ w'.heap[g]? = some (.cells cs 305 (0, 0)) ∧ cs.size = 64 ∧ Bytes (fun k => w.heap.size ≤ k) w' (.slice (some ⟨g, 17, none⟩) (j.L.getD (n - 1) ByteArray.empty).size 47) (j.L.getD (n - 1) ByteArray.empty) ∧ Keeps (fun _ => False) w w' := by
  have h1 := h.2.1.ok.low
  have h2 := h.2.1.ok.few
  have h3 := h.2.1.ok.pos
  have hsz : (j.L.getD (n - 1) ByteArray.empty).size ≤ 40 := by
    rw [List.getD_eq_getElem?_getD, List.getElem?_eq_getElem (by omega)]
    exact h.2.1.ok.sizes _ (List.getElem_mem _)
  refine (read_yes S pj pd j.ring j.per j.low (j.L.length + 1) j.safe j.epoch n n 0 _ j.note m w h.1 h.2.2 (seven_le0 _ _ h.2.1.fewPuts) ⟨by omega, h3.2⟩ h.2.1.room (by omega) h0 (by omega) (by omega) (h.2.1.read_live h0 hn) hsz (by omega) (by omega)).mono ?_
  rintro e w' ⟨g, e1, e2, e3, e4⟩
  exact ⟨g, _, e1, e2, e3, by rw [List.size_toArray, bcells_length]; exact packB_size _ _ _ (by omega), Bytes.row e3 e2 rfl (by omega) (sec_parts hsz e3).2.2.2, e4⟩

theorem use_open (S : Nat → Prop) (pd : Nat) (j : JM) (m : DM) (w : World) (hD : PDisk S w pd m) (hm : m.ok) (hN : (m.puts.length + 101) * 72 ≤ 140737488355328) (hy : m.syncs < 9223372036854775807) (hF : Found j m) (he : j.epoch + 1 < 2305843009213693952) :
    Calls Tryz.prog 182 #[.pointer (some ⟨pd, 0, none⟩), .int .i64 (j.ring : Int), .int .i64 (j.per : Int)] w fun e w' => ∃ pj, e = .returned (.tuple #[.pointer (some ⟨pj, 0, none⟩), .int .i64 0]) ∧ w.heap.size ≤ pj ∧ JUse (fun k => S k ∨ w.heap.size ≤ k) w' pj pd { j with safe := j.L.length, epoch := j.epoch + 1 } (openedDM j m) ∧ Keeps S w w' := by
  have h3 := hF.ok.pos
  have h4 := hF.room
  have h5 := hF.ok.note
  refine (open_yes S pd j m w hD hm hN hy hF).mono ?_
  rintro e w' ⟨pj, e1, e2, e3, e4⟩
  refine ⟨pj, e1, e2, ⟨e3, ?_, ?_⟩, e4⟩
  · exact inUse_begin (j := { j with safe := j.L.length, epoch := j.epoch + 1 }) ⟨hF.ok.ring, hF.ok.per, hF.ok.low, hF.ok.win, hF.ok.sizes, hF.ok.note, ⟨hF.ok.few.1, he⟩⟩ rfl hF.room hF.shape hF.live
  · refine DM.sync_ok (DM.put_ok (DM.puts'_ok blank_size _ hm (fun i hi => by have := frees_lt _ _ _ _ (by omega) i hi; omega)) ?_ (packB_size _ _ _ (by omega)))
    rw [DM.puts'_dur]; omega

def newJM (ring per : Nat) : JM := ⟨ring, per, [], 1, 0, 1, ByteArray.empty⟩
theorem use_create (S : Nat → Prop) (pd ring per : Nat) (m : DM) (w : World) (hD : PDisk S w pd m) (hm : m.ok) (hN : (m.puts.length + 101) * 72 ≤ 140737488355328) (hy : m.syncs < 9223372036854775807) (hr : 2 ≤ ring ∧ ring ≤ 6) (hp : 2 ≤ per ∧ per ≤ 16) (hroom : ring * per + 2 ≤ m.dur.length) :
    Calls Tryz.prog 149 #[.pointer (some ⟨pd, 0, none⟩), .int .i64 (ring : Int), .int .i64 (per : Int)] w fun e w' => ∃ pj, e = .returned (.tuple #[.pointer (some ⟨pj, 0, none⟩), .int .i64 0]) ∧ w.heap.size ≤ pj ∧ JUse (fun k => S k ∨ w.heap.size ≤ k) w' pj pd (newJM ring per) (createdDM ring per m) ∧ Keeps S w w' := by
  have hC : 4 ≤ ring * per ∧ ring * per ≤ 96 := ⟨Nat.mul_le_mul hr.1 hp.1, Nat.mul_le_mul hr.2 hp.2⟩
  have hsz : (packB ring per nameB).size = 64 := packB_size _ _ _ (by decide)
  refine (create_yes S pd ring per m w hD hm hN hy hr hp hroom).mono ?_
  rintro e w' ⟨pj, e1, e2, e3, e4⟩
  refine ⟨pj, e1, e2, ⟨e3, ?_, ?_⟩, e4⟩
  · refine inUse_begin (j := newJM ring per) (m := m.put 0 (packB ring per nameB)) ⟨hr, hp, ⟨Nat.le_refl _, Nat.le_refl _⟩, Nat.zero_le _, (fun s hs => by cases hs), Nat.zero_le _, ⟨by show 0 < 2305843009213693952; omega, by show 1 < 2305843009213693952; omega⟩⟩ rfl hroom ?_ ?_
    · rw [DM.put_read, if_pos rfl]; rfl
    · intro n a b
      have a' : 1 ≤ n := a
      have b' : n ≤ 0 := b
      omega
  · refine DM.sync_ok (DM.put_ok (DM.puts'_ok blank_size _ (DM.put_ok hm (by omega) hsz) (fun i hi => ?_)) ?_ (packB_size _ _ _ (by simp)))
    · have := frees_lt ring per 1 _ (by omega) i hi
      show i < m.dur.length
      omega
    · rw [DM.puts'_dur]; show 1 < m.dur.length; omega
theorem openedDM_syncs (j : JM) (m : DM) : (openedDM j m).syncs = m.syncs + 1 := by
  unfold openedDM DM.sync
  show ((m.puts' _ _).syncs + 1) = _
  rw [DM.puts'_syncs]
theorem createdDM_syncs (ring per : Nat) (m : DM) : (createdDM ring per m).syncs = m.syncs + 1 := by
  unfold createdDM DM.sync
  show (((m.put 0 _).puts' _ _).syncs + 1) = _
  rw [DM.puts'_syncs]; rfl
theorem openedDM_len (j : JM) (m : DM) : (openedDM j m).dur.length = m.dur.length := by
  unfold openedDM
  rw [DM.sync_len]
  show (m.puts' _ _).dur.length = _
  rw [DM.puts'_dur]
theorem createdDM_len (ring per : Nat) (m : DM) : (createdDM ring per m).dur.length = m.dur.length := by
  unfold createdDM
  rw [DM.sync_len]
  show ((m.put 0 _).puts' _ _).dur.length = _
  rw [DM.puts'_dur]; rfl

/-- []byte(s) -/
def bsOf (x : Value) : Sem Value := convert 9 138 x
theorem bsOf_eq (x : Value) : convert 9 138 x = bsOf x := rfl
theorem run_bsOf (W : World) (s : ByteArray) : ∃ cap W', (bsOf (.string s)).run Tryz.prog W = .ok (.slice (some ⟨W.heap.size, 0, none⟩) s.size cap) W' ∧ Hid (Bytes (fun k => W.heap.size ≤ k) W' (.slice (some ⟨W.heap.size, 0, none⟩) s.size cap) s ∧ Keeps (fun _ => False) W W') := by
  have h := run_bytes_of_string (P := Tryz.prog) W 9 138 5 s Tryz.underlying9 Tryz.underlying138 Tryz.underlying5
  refine ⟨_, _, h, hide ⟨?_, ((Keeps.refl _ W).drew).alloc _⟩⟩
  refine Bytes.row (heap_alloc_last W.drew _) (Nat.le_refl _) rfl (grownCap_ge _ _ _ _) (fun j hj => ?_)
  have hj' : j < s.data.size := by rw [bcells_length] at hj; exact hj
  rw [Nat.zero_add, bytesRow_at s _ j hj']
  unfold bcells
  rw [List.getElem?_map, List.getElem?_eq_getElem (by simpa using hj')]
  simp

end Go.Proofs.YthbmmbgkchiajaaGreat
