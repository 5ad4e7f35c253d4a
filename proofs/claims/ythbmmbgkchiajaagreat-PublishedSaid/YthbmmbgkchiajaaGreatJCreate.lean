
/- Create and Open: the calls. -/
import Derived.Test.YthbmmbgkchiajaaGreatJOpen
namespace Go.Proofs.YthbmmbgkchiajaaGreat
set_option linter.unusedSimpArgs false
set_option linter.unusedVariables false
open Go.RowKit

def createdDM (ring per : Nat) (m : DM) : DM := (((m.put 0 (packB ring per nameB)).puts' (frees ring per 1 (ring * per - (1 - 1))) blankB).put 1 (packB 1 1 ByteArray.empty)).sync
def openedDM (j : JM) (m : DM) : DM := ((m.puts' (frees j.ring j.per (j.L.length + 1) (j.ring * j.per - (j.L.length + 1 - j.low))) blankB).put 1 (packB j.low (j.epoch + 1) j.note)).sync

set_option maxRecDepth 100000 in
set_option maxHeartbeats 400000 in
theorem create_bad (pd : Nat) (ring per : Int) (w : World) (h : ¬ (2 ≤ ring ∧ ring ≤ 6 ∧ 2 ≤ per ∧ per ≤ 16)) :
    Calls Tryz.prog 149 #[.pointer (some ⟨pd, 0, none⟩), .int .i64 ring, .int .i64 per] w fun e w' => e = .returned (.tuple #[.pointer none, .int .i64 1]) ∧ w' = w := by
  have H := hide h
  clear h
  go_enter Tryz.func149, Tryz.ntmps149
  go_wp2_with fail
  go_at_call 219
  refine (fits_bad pd ring per w (unhide H)).mono ?_
  rintro e w1 ⟨rfl, rfl⟩
  go_wp2
  go_ret2
  exact ⟨rfl, rfl⟩

set_option maxRecDepth 100000 in
set_option maxHeartbeats 400000 in
theorem create_small (S : Nat → Prop) (pd ring per : Nat) (m : DM) (w : World) (hD : PDisk S w pd m) (hm : m.ok) (hr : 2 ≤ ring ∧ ring ≤ 6) (hp : 2 ≤ per ∧ per ≤ 16) (hroom : m.dur.length < ring * per + 2) :
    Calls Tryz.prog 149 #[.pointer (some ⟨pd, 0, none⟩), .int .i64 (ring : Int), .int .i64 (per : Int)] w fun e w' => e = .returned (.tuple #[.pointer none, .int .i64 1]) ∧ w' = w := by
  have H := hide (fits_small S pd ring per m w hD hm hr hp hroom)
  clear hD hm hroom
  go_enter Tryz.func149, Tryz.ntmps149
  go_wp2_with fail
  go_at_call 219
  refine (unhide H).mono ?_
  rintro e w1 ⟨rfl, rfl⟩
  go_wp2
  go_ret2
  exact ⟨rfl, rfl⟩

set_option maxRecDepth 100000 in
set_option maxHeartbeats 400000 in
theorem open_bad (pd : Nat) (ring per : Int) (w : World) (h : ¬ (2 ≤ ring ∧ ring ≤ 6 ∧ 2 ≤ per ∧ per ≤ 16)) :
    Calls Tryz.prog 182 #[.pointer (some ⟨pd, 0, none⟩), .int .i64 ring, .int .i64 per] w fun e w' => e = .returned (.tuple #[.pointer none, .int .i64 1]) ∧ w' = w := by
  have H := hide h
  clear h
  go_enter Tryz.func182, Tryz.ntmps182
  go_wp2_with fail
  go_at_call 219
  refine (fits_bad pd ring per w (unhide H)).mono ?_
  rintro e w1 ⟨rfl, rfl⟩
  go_wp2
  go_ret2
  exact ⟨rfl, rfl⟩

set_option maxRecDepth 100000 in
set_option maxHeartbeats 400000 in
theorem open_small (S : Nat → Prop) (pd ring per : Nat) (m : DM) (w : World) (hD : PDisk S w pd m) (hm : m.ok) (hr : 2 ≤ ring ∧ ring ≤ 6) (hp : 2 ≤ per ∧ per ≤ 16) (hroom : m.dur.length < ring * per + 2) :
    Calls Tryz.prog 182 #[.pointer (some ⟨pd, 0, none⟩), .int .i64 (ring : Int), .int .i64 (per : Int)] w fun e w' => e = .returned (.tuple #[.pointer none, .int .i64 1]) ∧ w' = w := by
  have H := hide (fits_small S pd ring per m w hD hm hr hp hroom)
  clear hD hm hroom
  go_enter Tryz.func182, Tryz.ntmps182
  go_wp2_with fail
  go_at_call 219
  refine (unhide H).mono ?_
  rintro e w1 ⟨rfl, rfl⟩
  go_wp2
  go_ret2
  exact ⟨rfl, rfl⟩

theorem seven_le (n a b : Nat) (h : (n + b) * 72 ≤ 140737488355328) (hab : a ≤ b) : (n + a) * 72 ≤ 140737488355328 := Nat.le_trans (Nat.mul_le_mul_right 72 (by omega)) h
theorem seven_le0 (n b : Nat) (h : (n + b) * 72 ≤ 140737488355328) : n * 72 ≤ 140737488355328 := Nat.le_trans (Nat.mul_le_mul_right 72 (by omega)) h

set_option maxRecDepth 100000 in
set_option maxHeartbeats 400000 in
theorem create_yes (S : Nat → Prop) (pd ring per : Nat) (m : DM) (w : World) (hD : PDisk S w pd m) (hm : m.ok) (hN : (m.puts.length + 101) * 72 ≤ 140737488355328) (hy : m.syncs < 9223372036854775807) (hr : 2 ≤ ring ∧ ring ≤ 6) (hp : 2 ≤ per ∧ per ≤ 16) (hroom : ring * per + 2 ≤ m.dur.length) :
    Calls Tryz.prog 149 #[.pointer (some ⟨pd, 0, none⟩), .int .i64 (ring : Int), .int .i64 (per : Int)] w fun e w' => ∃ pj, e = .returned (.tuple #[.pointer (some ⟨pj, 0, none⟩), .int .i64 0]) ∧ w.heap.size ≤ pj ∧ JD (fun k => S k ∨ w.heap.size ≤ k) w' pj pd ring per 1 1 0 1 ByteArray.empty (createdDM ring per m) ∧ Keeps S w w' := by
  have HC : Hid (4 ≤ ring * per ∧ ring * per ≤ 96) := hide ⟨Nat.mul_le_mul hr.1 hp.1, Nat.mul_le_mul hr.2 hp.2⟩
  have HF := hide (fits_yes S pd ring per m w hD hm (seven_le0 _ _ hN) hr hp hroom)
  have HD := hide (Two.mono (T := fun k => S k ∧ k < w.heap.size) hD (fun k l d => ⟨d, l⟩) : PDisk (fun k => S k ∧ k < w.heap.size) w pd m)
  have HM := hide hm
  have HR := hide hroom
  have HS : Hid ((packB ring per nameB).size = 64) := hide (packB_size _ _ _ (by decide))
  have hd2 : 0 < m.dur.length := by omega
  clear hD hm hroom
  go_enter Tryz.func149, Tryz.ntmps149
  go_wp2_with fail
  go_at_call 219
  refine (unhide HF).mono ?_
  rintro e w1 ⟨rfl, hk1⟩
  have HD1 := hide (Two.keep (unhide HD) hk1 (fun _ _ _ f => f))
  have HK1 := hide hk1
  have hs1 := hk1.size
  clear hk1
  go_wp2_with fail
  have hb2 := heap_alloc_last w1 (.cells #[.pointer (some ⟨pd, 0, none⟩), .int .i64 (ring : Int), .int .i64 (per : Int), .int .i64 1, .int .i64 1, .int .i64 0, .int .i64 1, .slice none 0 0] 282)
  have hk2 : Keeps (fun _ => False) w1 (w1.alloc (.cells #[.pointer (some ⟨pd, 0, none⟩), .int .i64 (ring : Int), .int .i64 (per : Int), .int .i64 1, .int .i64 1, .int .i64 0, .int .i64 1, .slice none 0 0] 282)) := (Keeps.refl _ _).alloc _
  generalize w1.alloc (.cells #[.pointer (some ⟨pd, 0, none⟩), .int .i64 (ring : Int), .int .i64 (per : Int), .int .i64 1, .int .i64 1, .int .i64 0, .int .i64 1, .slice none 0 0] 282) = W2 at *
  have HB2 := hide hb2
  have HK2 := hide hk2
  have hl2 := lt_of_heap hb2
  have HD2 := hide (Two.keep (unhide HD1) hk2 (fun _ _ _ f => f))
  clear hb2 hk2
  go_at_call 220
  refine (shape_any ring per W2 hr.2 hp.2).mono ?_
  rintro e w3 ⟨g, rfl, hg, hgg, hk3⟩
  have HK3 := hide hk3
  have HG := hide hgg
  have HB3 := hide (hk3.heap (unhide HB2) (fun f => f))
  have HD3 := hide (Two.keep (unhide HD2) hk3 (fun _ _ _ f => f))
  have hs3 := hk3.size
  clear hgg hk3
  go_wp2_with fail
  go_at_call 190
  refine (dWrite_yes (fun k => S k ∧ k < w.heap.size) pd m 0 g 64 (packB ring per nameB) w3 (unhide HD3) (unhide HM) hd2 (unhide HS) (seven_le _ 1 _ hN (by omega)) (by have hg := unhide HG; intro j u hj; rw [Nat.zero_add]; exact (cell_of_heap hg).trans (by simpa using hj)) (lt_of_heap (unhide HG)) (fun h => by omega) (by omega)).mono ?_
  rintro e w4 ⟨rfl, hd4, hk4⟩
  have hb4 := hk4.heap (unhide HB3) (fun h => by omega)
  have HJD : Hid (JD (fun k => (S k ∧ k < w.heap.size) ∨ w.heap.size ≤ k) w4 w1.heap.size pd ring per 1 1 0 1 ByteArray.empty (m.put 0 (packB ring per nameB))) := hide ⟨fun k => (S k ∧ k < w.heap.size) ∨ w3.heap.size ≤ k, fun k => k = w1.heap.size, .slice none 0 0,
    (fun k d => by rcases d with d | d; (exact .inl d); (exact .inr (by omega))), (fun k d => .inr (by omega)), (fun k d e => by rcases d with d | d <;> omega), hd4, hb4, rfl, Bytes.nil _ _⟩
  have HK4 : Hid (Keeps (fun k => S k ∧ k < w.heap.size) w w4) := hide (((((unhide HK1).trans (unhide HK2) (fun _ _ f => f)).trans (unhide HK3) (fun _ _ f => f)).mono (T := fun k => S k ∧ k < w.heap.size) (fun _ _ f => f.elim)).trans hk4 (fun _ _ h => h))
  clear hd4 hk4 hb4
  go_wp2_with fail
  go_at_call 221
  refine (begin_any _ w1.heap.size pd ring per 1 1 0 1 ByteArray.empty _ w4 (unhide HJD) (DM.put_ok (unhide HM) hd2 (unhide HS)) (by show ((m.puts ++ [_]).length + 100) * 72 ≤ _; rw [List.length_append]; exact Nat.le_trans (Nat.mul_le_mul_right 72 (by simp)) hN) hy (by have := unhide HC; omega) (unhide HR) (by omega) (by omega) (by omega) (by omega) (by omega) (by simp)).mono ?_
  rintro e w5 ⟨rfl, hj5, hk5⟩
  have HJ5 := hide hj5
  have HK5 := hide hk5
  have hs4 := (unhide HK4).size
  clear hj5 hk5
  go_wp2
  go_ret2
  refine ⟨w1.heap.size, rfl, hs1, (unhide HJ5).mono (fun k l h => ?_), ((unhide HK4).mono (T := S) (fun _ _ h => h.1)).trans (unhide HK5) (fun k hk h => ?_)⟩
  · rcases h with (h | h) | h
    · exact .inl h.1
    · exact .inr h
    · exact .inr (by omega)
  · rcases h with h | h
    · exact h.1
    · omega

set_option maxRecDepth 100000 in
set_option maxHeartbeats 400000 in
theorem open_broken (S : Nat → Prop) (pd ring per a b a' b' : Nat) (t t' : ByteArray) (m : DM) (w : World) (hD : PDisk S w pd m) (hm : m.ok) (hN : m.puts.length * 72 ≤ 140737488355328) (hr : 2 ≤ ring ∧ ring ≤ 6) (hp : 2 ≤ per ∧ per ≤ 16) (hroom : ring * per + 2 ≤ m.dur.length)
    (h0 : m.read 0 = packB a b t) (h1 : m.read 1 = packB a' b' t') (ht' : t'.size ≤ 40) (ha' : a' < 4611686018427387904) (hb' : b' < 4611686018427387904) (hne : packB a b t ≠ packB ring per nameB) :
    Calls Tryz.prog 182 #[.pointer (some ⟨pd, 0, none⟩), .int .i64 (ring : Int), .int .i64 (per : Int)] w fun e w' => e = .returned (.tuple #[.pointer none, .int .i64 3]) ∧ Keeps (fun _ => False) w w' := by
  have HF := hide (fits_yes S pd ring per m w hD hm hN hr hp hroom)
  have hd2 : 2 ≤ m.dur.length := by omega
  have HD := hide hD
  have HM := hide hm
  have H0 := hide h0
  have H1 := hide h1
  have hz : (packB a b t).size = 64 := by rw [← h0]; exact DM.read_size hm (by omega)
  have HZ := hide hz
  have HNE := hide hne
  clear hD hm hroom h0 h1 hz hne
  go_enter Tryz.func182, Tryz.ntmps182
  go_wp2_with fail
  go_at_call 219
  refine (unhide HF).mono ?_
  rintro e w1 ⟨rfl, hk1⟩
  have HD1 := hide (Two.keep (unhide HD) hk1 (fun _ _ _ f => f))
  have HK1 := hide hk1
  clear hk1
  go_wp2_with fail
  go_at_call 184
  refine (dRead_yes S pd m 0 w1 (unhide HD1) (unhide HM) (by omega) hN).mono ?_
  rintro e w2 ⟨g, rfl, _, hg, hk2⟩
  rw [unhide H0] at hg
  have HG := hide hg
  have HD2 := hide (Two.keep (unhide HD1) hk2 (fun _ _ _ f => f))
  have HK2 := hide ((unhide HK1).trans hk2 (fun _ _ f => f))
  clear hk2 hg
  go_wp2_with fail
  go_at_call 184
  refine (dRead_yes S pd m 1 w2 (unhide HD2) (unhide HM) (by omega) hN).mono ?_
  rintro e w3 ⟨g1, rfl, _, hg1, hk3⟩
  rw [unhide H1] at hg1
  have HG1 := hide hg1
  have HG' := hide (hk3.heap (unhide HG) (fun f => f))
  have HK3 := hide ((unhide HK2).trans hk3 (fun _ _ f => f))
  clear hk3 hg1
  go_wp2_with fail
  go_at_call 251
  refine (unpack_any g1 a' b' t' 305 w3 (by omega) (by omega) ht' (unhide HG1)).mono ?_
  rintro e w4 ⟨rfl, hk4⟩
  have HG4 := hide (hk4.heap (unhide HG') (fun f => f))
  have HK4 := hide ((unhide HK3).trans hk4 (fun _ _ f => f))
  clear hk4
  go_wp2_with fail
  go_at_call 220
  refine (shape_any ring per w4 hr.2 hp.2).mono ?_
  rintro e w5 ⟨g5, rfl, _, hg5, hk5⟩
  have HG5 := hide hg5
  have HG6 := hide (hk5.heap (unhide HG4) (fun f => f))
  have HK5 := hide ((unhide HK4).trans hk5 (fun _ _ f => f))
  clear hk5 hg5
  go_wp2_with fail
  go_at_call 252
  refine (bEqual_any (fun _ => True) (fun _ => True) _ _ (packB a b t) (packB ring per nameB) w5 (Bytes.row (unhide HG6) trivial (unhide HZ) (by omega) (fun j hj => by rw [Nat.zero_add]; simp)) (Bytes.row (unhide HG5) trivial (packB_size _ _ _ (by decide)) (by omega) (fun j hj => by rw [Nat.zero_add]; simp))).mono ?_
  rintro e w6 ⟨rfl, rfl⟩
  have hdec : decide (packB a b t = packB ring per nameB) = false := by simpa using unhide HNE
  rw [hdec]
  clear hdec
  go_wp2
  go_ret2
  exact ⟨rfl, unhide HK5⟩

set_option maxRecDepth 100000 in
set_option maxHeartbeats 400000 in
theorem open_yes (S : Nat → Prop) (pd : Nat) (j : JM) (m : DM) (w : World) (hD : PDisk S w pd m) (hm : m.ok) (hN : (m.puts.length + 101) * 72 ≤ 140737488355328) (hy : m.syncs < 9223372036854775807) (hF : Found j m) :
    Calls Tryz.prog 182 #[.pointer (some ⟨pd, 0, none⟩), .int .i64 (j.ring : Int), .int .i64 (j.per : Int)] w fun e w' => ∃ pj, e = .returned (.tuple #[.pointer (some ⟨pj, 0, none⟩), .int .i64 0]) ∧ w.heap.size ≤ pj ∧ JD (fun k => S k ∨ w.heap.size ≤ k) w' pj pd j.ring j.per j.low (j.L.length + 1) j.L.length (j.epoch + 1) j.note (openedDM j m) ∧ Keeps S w w' := by
  have hr := hF.ok.ring
  have hp := hF.ok.per
  have hlo := hF.ok.low
  have hfew := hF.ok.few
  have hnote := hF.ok.note
  have hspan := hF.ok.span
  have hroom := hF.room
  have HC := hide hF.ok.pos
  have HFT := hide (fits_yes S pd j.ring j.per m w hD hm (seven_le0 _ _ hN) hr hp hroom)
  have hd2 : 2 ≤ m.dur.length := by omega
  have HD := hide hD
  have HM := hide hm
  have HFF := hide hF
  have HR := hide hroom
  have HSP := hide hspan
  have hz : (packB j.ring j.per nameB).size = 64 := packB_size _ _ _ (by decide)
  have HZ := hide hz
  have HN0 := hide (seven_le0 _ _ hN)
  clear hD hm hroom hz hF hspan
  go_enter Tryz.func182, Tryz.ntmps182
  go_wp2_with fail
  go_at_call 219
  refine (unhide HFT).mono ?_
  rintro e w1 ⟨rfl, hk1⟩
  have HD1 := hide (Two.keep (unhide HD) hk1 (fun _ _ _ f => f))
  have HK1 := hide hk1
  have hs1 := hk1.size
  clear hk1
  go_wp2_with fail
  go_at_call 184
  refine (dRead_yes S pd m 0 w1 (unhide HD1) (unhide HM) (by omega) (unhide HN0)).mono ?_
  rintro e w2 ⟨g, rfl, _, hg, hk2⟩
  rw [(unhide HFF).shape] at hg
  have HG := hide hg
  have HD2 := hide (Two.keep (unhide HD1) hk2 (fun _ _ _ f => f))
  have HK2 := hide ((unhide HK1).trans hk2 (fun _ _ f => f))
  have hs2 := hk2.size
  clear hk2 hg
  go_wp2_with fail
  go_at_call 184
  refine (dRead_yes S pd m 1 w2 (unhide HD2) (unhide HM) (by omega) (unhide HN0)).mono ?_
  rintro e w3 ⟨g1, rfl, hg1l, hg1, hk3⟩
  rw [(unhide HFF).state] at hg1
  have HG1 := hide hg1
  have HG' := hide (hk3.heap (unhide HG) (fun f => f))
  have HK3 := hide ((unhide HK2).trans hk3 (fun _ _ f => f))
  have HD3 := hide (Two.keep (unhide HD2) hk3 (fun _ _ _ f => f))
  have hs3 := hk3.size
  clear hk3 hg1
  go_wp2_with fail
  go_at_call 251
  refine (unpack_any g1 j.low j.epoch j.note 305 w3 (by omega) (by omega) hnote (unhide HG1)).mono ?_
  rintro e w4 ⟨rfl, hk4⟩
  have HG4 := hide (hk4.heap (unhide HG') (fun f => f))
  have HG14 := hide (hk4.heap (unhide HG1) (fun f => f))
  have HK4 := hide ((unhide HK3).trans hk4 (fun _ _ f => f))
  have HD4 := hide (Two.keep (unhide HD3) hk4 (fun _ _ _ f => f))
  have hs4 := hk4.size
  clear hk4
  go_wp2_with fail
  go_at_call 220
  refine (shape_any j.ring j.per w4 hr.2 hp.2).mono ?_
  rintro e w5 ⟨g5, rfl, _, hg5, hk5⟩
  have HG5 := hide hg5
  have HG6 := hide (hk5.heap (unhide HG4) (fun f => f))
  have HG15 := hide (hk5.heap (unhide HG14) (fun f => f))
  have HK5 := hide ((unhide HK4).trans hk5 (fun _ _ f => f))
  have HD5 := hide (Two.keep (unhide HD4) hk5 (fun _ _ _ f => f))
  have hs5 := hk5.size
  clear hk5 hg5
  go_wp2_with fail
  go_at_call 252
  refine (bEqual_any (fun _ => True) (fun _ => True) _ _ (packB j.ring j.per nameB) (packB j.ring j.per nameB) w5 (Bytes.row (unhide HG6) trivial (unhide HZ) (by omega) (fun j hj => by rw [Nat.zero_add]; simp)) (Bytes.row (unhide HG5) trivial (unhide HZ) (by omega) (fun j hj => by rw [Nat.zero_add]; simp))).mono ?_
  rintro e w6 ⟨rfl, rfl⟩
  rw [decide_eq_true rfl]
  have hl1 : decide ((j.low : Int) < 1) = false := by simp; omega
  have hl2 : decide ((4611686018427387903 : Int) < (j.low : Int)) = false := by simp; omega
  go_wp2_with fail
  have hb7 := heap_alloc_last w6 (.cells #[.pointer (some ⟨pd, 0, none⟩), .int .i64 (j.ring : Int), .int .i64 (j.per : Int), .int .i64 (j.low : Int), .int .i64 (j.low : Int), .int .i64 0, .int .i64 ((j.epoch : Int) + 1), .slice (some ⟨g1, 17, none⟩) j.note.size 47] 282)
  have hk7 : Keeps (fun _ => False) w6 (w6.alloc (.cells #[.pointer (some ⟨pd, 0, none⟩), .int .i64 (j.ring : Int), .int .i64 (j.per : Int), .int .i64 (j.low : Int), .int .i64 (j.low : Int), .int .i64 0, .int .i64 ((j.epoch : Int) + 1), .slice (some ⟨g1, 17, none⟩) j.note.size 47] 282)) := (Keeps.refl _ _).alloc _
  generalize w6.alloc (.cells #[.pointer (some ⟨pd, 0, none⟩), .int .i64 (j.ring : Int), .int .i64 (j.per : Int), .int .i64 (j.low : Int), .int .i64 (j.low : Int), .int .i64 0, .int .i64 ((j.epoch : Int) + 1), .slice (some ⟨g1, 17, none⟩) j.note.size 47] 282) = W7 at *
  have hg17 := hk7.heap (unhide HG15) (fun f => f)
  have hgl := lt_of_heap (unhide HG15)
  have hd7 := Two.keep (unhide HD5) hk7 (fun _ _ _ f => f)
  have hJ7 : JAt W7 w6.heap.size pd j.ring j.per j.low j.low 0 (j.epoch + 1) (.slice (some ⟨g1, 17, none⟩) j.note.size 47) := hb7
  have HK7 := hide ((unhide HK5).trans hk7 (fun _ _ f => f))
  have hd7' : PDisk (fun k => S k ∧ k < w.heap.size) W7 pd m := by
    have h0 := Two.mono (T := fun k => S k ∧ k < w.heap.size) (unhide HD) (fun k l d => ⟨d, l⟩)
    exact Two.keep h0 (unhide HK7) (fun _ _ _ f => f)
  have HJD : Hid (JD (fun k => (S k ∧ k < w.heap.size) ∨ w.heap.size ≤ k) W7 w6.heap.size pd j.ring j.per j.low j.low 0 (j.epoch + 1) j.note m) := hide ⟨fun k => S k ∧ k < w.heap.size, fun k => k = w6.heap.size ∨ k = g1, _,
    (fun k d => .inl d), (fun k d => .inr (by rcases d with d | d <;> omega)), (fun k d e => by rcases e with e | e <;> omega), hd7', hJ7, .inl rfl,
    Bytes.row hg17 ⟨.inr rfl, by omega⟩ rfl (by omega) (sec_parts hnote hg17).2.2.2⟩
  clear hb7 hk7 hg17 hd7 hJ7 hd7'
  go_at_call 253
  refine (scan_any _ j w6.heap.size pd 0 (j.epoch + 1) j.note m W7 (unhide HJD) (unhide HM) (unhide HN0) (unhide HFF).scans).mono ?_
  rintro e w8 ⟨rfl, hj8, hk8⟩
  have HJ8 := hide hj8
  have HK8 := hide hk8
  have hs8 := hk8.size
  clear hj8 hk8
  go_wp2_with fail
  go_at_call 221
  refine (begin_any _ w6.heap.size pd j.ring j.per j.low (j.L.length + 1) 0 (j.epoch + 1) j.note m w8 (unhide HJ8) (unhide HM) (seven_le _ _ _ hN (by omega)) hy (by have := unhide HC; omega) (unhide HR) (by omega) (by omega) hlo.2 (unhide HSP) (by omega) hnote).mono ?_
  rintro e w9 ⟨rfl, hj9, hk9⟩
  have HJ9 := hide hj9
  have HK9 := hide hk9
  have hs7 := (unhide HK7).size
  clear hj9 hk9
  go_wp2
  go_ret2
  have h9 := unhide HJ9
  rw [Nat.add_sub_cancel] at h9
  refine ⟨w6.heap.size, rfl, by omega, h9.mono (fun k l h => ?_), ?_⟩
  · rcases h with (h | h) | h
    · exact .inl h.1
    · exact .inr h
    · exact .inr (by omega)
  · refine ((((unhide HK7).mono (T := S) (fun _ _ f => f.elim)).trans (unhide HK8) (fun k hk h => ?_))).trans (unhide HK9) (fun k hk h => ?_)
    · rcases h with h | h
      · exact h.1
      · omega
    · rcases h with h | h
      · exact h.1
      · omega

end Go.Proofs.YthbmmbgkchiajaaGreat
