
/- notes: Force and Truncate. -/
import Derived.Test.YthbmmbgkchiajaaKNotes
namespace Go.Proofs.Ythbmmbgkchiajaa
open Go.RowKit

attribute [local go_sem ↓] bsOf_eq

set_option maxRecDepth 100000 in
set_option maxHeartbeats 400000 in
theorem notes_force_old (B ps pj pd : Nat) (a : Int) (s : ByteArray) (vk : Value) (j : JM) (m : DM) (w : World) (h : KState B w ps pj pd j m) (h0 : -9223372036854775808 ≤ a) (h1 : a ≤ 9223372036854775807) (ho : pickOf a (j.L.length + 1) ≤ j.safe) :
    Calls Try.prog 8 #[.pointer (some ⟨ps, 0, none⟩), .pointer (some ⟨pj, 0, none⟩), .int .i64 (j.ring : Int), .int .i64 (j.per : Int), .agg #[.int .i64 1, .int .i64 a, .string s, vk]] w fun e w' => e = .returned (.bool true) ∧ KState B w' ps pj pd j m ∧ Keeps (fun k => B ≤ k) w w' := by
  have HK := hide h
  obtain ⟨S, T, al, cl, hst⟩ := h.start 1 a s vk
  have hok := hst.use.2.1.ok
  have hlim := hok.lim
  have hlow := hok.low
  have hring := hok.ring
  have hfew := hok.few
  have hsafe := hst.use.2.1.safe
  have hlt := pickOf_lt a (j.L.length + 1) (by omega)
  have HP : Hid (∀ W : World, Calls Try.prog 4 #[.int .i64 a, .int .i64 ((j.L.length : Int) + 1)] W fun e w' => e = .returned (.int .i64 (pickOf a (j.L.length + 1) : Nat)) ∧ w' = W) := hide fun W => pick_any a (j.L.length + 1) W h0 h1 (by omega) (by omega)
  have HFA := hide hst
  generalize pickOf a (j.L.length + 1) = n at *
  have HKW := hide hst.keeps
  obtain ⟨⟨p0, p1, p2, p3⟩, ⟨n0, n1, n2, n3⟩⟩ := hst.facts _ (Keeps.refl _ _)
  clear hst h hok
  have hng : decide ((j.safe : Int) < (n : Int)) = false := by simp; omega
  generalize hW : w.alloc (.cells #[.int .i64 1, .int .i64 a, .string s, vk] 37) = W0 at *
  go_enter Try.func8, Try.ntmps8
  go_wp2
  go_quiet ((go_at_call 4; exact Calls.quiet_of_same (unhide HP _)))
  have hkq : Keeps (fun _ => False) W0 (W0.drewN nq) := (Keeps.refl _ W0).drewN nq
  generalize W0.drewN nq = X at *
  have HKX := hide hkq
  clear p0 p1 p2 p3 n0 n1 n2 n3 hkq
  subst hW
  obtain ⟨⟨p0, p1, p2, p3⟩, ⟨n0, n1, n2, n3⟩⟩ := (unhide HFA).facts X ((unhide HKX).mono (fun _ _ f => f.elim))
  have HC := hide (use_force_old S pj pd n j m X ((unhide HFA).use.keep (unhide HKX) (fun _ _ _ f => f)) (by omega) ho)
  go_wp2_with fail
  go_at_call 22
  refine (unhide HC).mono ?_
  rintro e w2 ⟨rfl, rfl⟩
  go_wp2
  go_ret
  exact ⟨rfl, ((unhide HK).keep (unhide HKW)).keep (unhide HKX), ((unhide HKW).trans (unhide HKX) (fun _ _ f => f)).mono (T := fun k => B ≤ k) (fun _ _ f => f.elim)⟩

set_option maxRecDepth 100000 in
set_option maxHeartbeats 400000 in
theorem notes_force_new (B ps pj pd : Nat) (a : Int) (s : ByteArray) (vk : Value) (j : JM) (m : DM) (w : World) (h : KState B w ps pj pd j m) (hy : m.syncs < 9223372036854775807) (h0 : -9223372036854775808 ≤ a) (h1 : a ≤ 9223372036854775807) (ho : j.safe < pickOf a (j.L.length + 1)) :
    Calls Try.prog 8 #[.pointer (some ⟨ps, 0, none⟩), .pointer (some ⟨pj, 0, none⟩), .int .i64 (j.ring : Int), .int .i64 (j.per : Int), .agg #[.int .i64 1, .int .i64 a, .string s, vk]] w fun e w' => e = .returned (.bool true) ∧ KState B w' ps pj pd { j with safe := j.L.length } m.sync ∧ Keeps (fun k => B ≤ k) w w' := by
  have HK := hide h
  obtain ⟨S, T, al, cl, hst⟩ := h.start 1 a s vk
  have hok := hst.use.2.1.ok
  have hlim := hok.lim
  have hlow := hok.low
  have hring := hok.ring
  have hfew := hok.few
  have hsafe := hst.use.2.1.safe
  have hlt := pickOf_lt a (j.L.length + 1) (by omega)
  have HP : Hid (∀ W : World, Calls Try.prog 4 #[.int .i64 a, .int .i64 ((j.L.length : Int) + 1)] W fun e w' => e = .returned (.int .i64 (pickOf a (j.L.length + 1) : Nat)) ∧ w' = W) := hide fun W => pick_any a (j.L.length + 1) W h0 h1 (by omega) (by omega)
  have HFA := hide hst
  generalize pickOf a (j.L.length + 1) = n at *
  have HKW := hide hst.keeps
  obtain ⟨⟨p0, p1, p2, p3⟩, ⟨n0, n1, n2, n3⟩⟩ := hst.facts _ (Keeps.refl _ _)
  clear hst h hok
  have hng : decide ((j.safe : Int) < (n : Int)) = true := by simp; omega
  generalize hW : w.alloc (.cells #[.int .i64 1, .int .i64 a, .string s, vk] 37) = W0 at *
  go_enter Try.func8, Try.ntmps8
  go_wp2
  go_quiet ((go_at_call 4; exact Calls.quiet_of_same (unhide HP _)))
  have hkq : Keeps (fun _ => False) W0 (W0.drewN nq) := (Keeps.refl _ W0).drewN nq
  generalize W0.drewN nq = X at *
  have HKX := hide hkq
  clear p0 p1 p2 p3 n0 n1 n2 n3 hkq
  subst hW
  obtain ⟨⟨p0, p1, p2, p3⟩, ⟨n0, n1, n2, n3⟩⟩ := (unhide HFA).facts X ((unhide HKX).mono (fun _ _ f => f.elim))
  have HC := hide (use_force_new S pj pd n j m X ((unhide HFA).use.keep (unhide HKX) (fun _ _ _ f => f)) hy (by omega) ho)
  go_wp2_with fail
  go_at_call 22
  refine (unhide HC).mono ?_
  rintro e w2 ⟨rfl, hj2, hk2⟩
  have HK2 := hide (((unhide HKX).mono (T := S) (fun _ _ f => f.elim)).trans hk2 (fun _ _ h => h))
  have HJ2 := hide hj2
  clear p0 p1 p2 p3 n0 n1 n2 n3 hk2 hj2 HC
  obtain ⟨⟨p0, p1, p2, p3⟩, ⟨n0, n1, n2, n3⟩⟩ := (unhide HFA).facts w2 (unhide HK2)
  have hheap := (unhide HK2).heap (unhide HFA).heap (fun d => (unhide HFA).hST ps d (unhide HFA).tps)
  have hfz := frozen_of_heap (o := 2) hheap
  have hown := (unhide HFA).own.keep (unhide HK2) (fun k _ t d => (unhide HFA).hST k d t.1)
  have HHEAP := hide hheap
  have HOWN := hide hown
  clear hheap hown
  go_wp2
  go_ret
  have hks : Keeps (fun k => k = ps) w2 (w2.setCell ⟨ps, 2, none⟩ (.int .i64 (j.L.length : Int))) := (Keeps.refl (fun k => k = ps) w2).setCell (p := ⟨ps, 2, none⟩) (.inl rfl) _
  refine ⟨rfl, ⟨S, T, fun k d => ((unhide HFA).hS k d).1, fun k d => ((unhide HFA).hT k d).1, (unhide HFA).hST, (unhide HJ2).keep hks (fun k _ d e => (unhide HFA).hST k d (by rw [e]; exact (unhide HFA).tps)), ⟨_, heap_setCell_same (unhide HHEAP) _, (unhide HFA).tps, (unhide HOWN).keep hks (fun k _ d e => d.2 e)⟩⟩, ?_⟩
  refine (((unhide HKW).mono (T := fun k => B ≤ k) (fun _ _ f => f.elim)).trans (unhide HK2) (fun k _ d => ((unhide HFA).hS k d).1)).trans hks (fun k _ e => ?_)
  rw [e]; exact ((unhide HFA).hT _ (unhide HFA).tps).1

set_option maxRecDepth 100000 in
set_option maxHeartbeats 400000 in
theorem notes_trunc_long (B ps pj pd : Nat) (a : Int) (s : ByteArray) (vk : Value) (j : JM) (m : DM) (w : World) (h : KState B w ps pj pd j m) (h0 : -9223372036854775808 ≤ a) (h1 : a ≤ 9223372036854775807) (hs : 40 < s.size) (hs' : s.size ≤ 140737488351232) :
    Calls Try.prog 8 #[.pointer (some ⟨ps, 0, none⟩), .pointer (some ⟨pj, 0, none⟩), .int .i64 (j.ring : Int), .int .i64 (j.per : Int), .agg #[.int .i64 2, .int .i64 a, .string s, vk]] w fun e w' => e = .returned (.bool true) ∧ KState B w' ps pj pd j m ∧ Keeps (fun k => B ≤ k) w w' := by
  have HK := hide h
  obtain ⟨S, T, al, cl, hst⟩ := h.start 2 a s vk
  have hok := hst.use.2.1.ok
  have hlim := hok.lim
  have hlow := hok.low
  have hring := hok.ring
  have hfew := hok.few
  have hsafe := hst.use.2.1.safe
  have hlt := pickOf_lt a (j.L.length + 2 - j.low) (by omega)
  have HP : Hid (∀ W : World, Calls Try.prog 4 #[.int .i64 a, .int .i64 ((j.L.length : Int) + 2 - (j.low : Int))] W fun e w' => e = .returned (.int .i64 (pickOf a (j.L.length + 2 - j.low) : Nat)) ∧ w' = W) := hide fun W => by
    have := pick_any a (j.L.length + 2 - j.low) W h0 h1 (by omega) (by omega)
    rwa [show ((j.L.length + 2 - j.low : Nat) : Int) = (j.L.length : Int) + 2 - (j.low : Int) by omega] at this
  have HFA := hide hst
  generalize pickOf a (j.L.length + 2 - j.low) = n at *
  have HKW := hide hst.keeps
  obtain ⟨⟨p0, p1, p2, p3⟩, ⟨n0, n1, n2, n3⟩⟩ := hst.facts _ (Keeps.refl _ _)
  have hsz : (w.alloc (.cells #[.int .i64 2, .int .i64 a, .string s, vk] 37)).heap.size = w.heap.size + 1 := by unfold World.alloc; exact Array.size_push _
  have hpjw : pj < w.heap.size := ((hst.hS pj hst.use.1.own.1)).2
  clear hst h hok
  generalize hW : w.alloc (.cells #[.int .i64 2, .int .i64 a, .string s, vk] 37) = W0 at *
  go_enter Try.func8, Try.ntmps8
  go_wp2
  go_quiet ((go_at_call 4; exact Calls.quiet_of_same (unhide HP _)))
  have hkq : Keeps (fun _ => False) W0 (W0.drewN nq) := (Keeps.refl _ W0).drewN nq
  generalize W0.drewN nq = X at *
  have HKX := hide hkq
  have hsx := hkq.size
  clear p0 p1 p2 p3 n0 n1 n2 n3 hkq
  subst hW
  obtain ⟨⟨p0, p1, p2, p3⟩, ⟨n0, n1, n2, n3⟩⟩ := (unhide HFA).facts X ((unhide HKX).mono (fun _ _ f => f.elim))
  obtain ⟨cap, W1, hbs, HB⟩ := run_bsOf X s
  obtain ⟨hB1, hk1⟩ := unhide HB
  have HB1 := hide hB1
  have HK1 := hide ((unhide HKX).trans hk1 (fun _ _ f => f))
  have hs1 := hk1.size
  have HJ1 := hide ((unhide HFA).use.keep (unhide HK1) (fun _ _ _ f => f))
  clear hB1 hk1 HB
  go_wp2_with fail
  go_at_call 23
  refine (truncate_bad S pj pd j.ring j.per j.low (j.L.length + 1) j.safe j.epoch s.size cap _ _ j.note m W1 (unhide HJ1).1 (.inr (.inr hs)) (by omega)).mono ?_
  rintro e w2 ⟨rfl, rfl⟩
  clear p0 p1 p2 p3 n0 n1 n2 n3
  obtain ⟨⟨p0, p1, p2, p3⟩, ⟨n0, n1, n2, n3⟩⟩ := (unhide HFA).facts w2 ((unhide HK1).mono (fun _ _ f => f.elim))
  go_wp2
  go_ret
  exact ⟨rfl, ((unhide HK).keep (unhide HKW)).keep (unhide HK1), ((unhide HKW).trans (unhide HK1) (fun _ _ f => f)).mono (T := fun k => B ≤ k) (fun _ _ f => f.elim)⟩

set_option maxRecDepth 100000 in
set_option maxHeartbeats 400000 in
theorem notes_trunc_yes (B ps pj pd : Nat) (a : Int) (s : ByteArray) (vk : Value) (j : JM) (m : DM) (w : World) (h : KState B w ps pj pd j m) (hB : B ≤ w.heap.size) (hy : m.syncs < 9223372036854775807) (h0 : -9223372036854775808 ≤ a) (h1 : a ≤ 9223372036854775807) (hs : s.size ≤ 40) :
    Calls Try.prog 8 #[.pointer (some ⟨ps, 0, none⟩), .pointer (some ⟨pj, 0, none⟩), .int .i64 (j.ring : Int), .int .i64 (j.per : Int), .agg #[.int .i64 2, .int .i64 a, .string s, vk]] w fun e w' => e = .returned (.bool true) ∧ KState B w' ps pj pd { j with low := j.low + pickOf a (j.L.length + 2 - j.low), note := s, safe := j.L.length } ((m.put 1 (packB (j.low + pickOf a (j.L.length + 2 - j.low)) j.epoch s)).sync) ∧ Keeps (fun k => B ≤ k) w w' := by
  have HK := hide h
  obtain ⟨S, T, al, cl, hst⟩ := h.start 2 a s vk
  have hok := hst.use.2.1.ok
  have hlim := hok.lim
  have hlow := hok.low
  have hring := hok.ring
  have hfew := hok.few
  have hsafe := hst.use.2.1.safe
  have hlt := pickOf_lt a (j.L.length + 2 - j.low) (by omega)
  have HP : Hid (∀ W : World, Calls Try.prog 4 #[.int .i64 a, .int .i64 ((j.L.length : Int) + 2 - (j.low : Int))] W fun e w' => e = .returned (.int .i64 (pickOf a (j.L.length + 2 - j.low) : Nat)) ∧ w' = W) := hide fun W => by
    have := pick_any a (j.L.length + 2 - j.low) W h0 h1 (by omega) (by omega)
    rwa [show ((j.L.length + 2 - j.low : Nat) : Int) = (j.L.length : Int) + 2 - (j.low : Int) by omega] at this
  have HFA := hide hst
  generalize pickOf a (j.L.length + 2 - j.low) = n at *
  have HKW := hide hst.keeps
  obtain ⟨⟨p0, p1, p2, p3⟩, ⟨n0, n1, n2, n3⟩⟩ := hst.facts _ (Keeps.refl _ _)
  have hsz : (w.alloc (.cells #[.int .i64 2, .int .i64 a, .string s, vk] 37)).heap.size = w.heap.size + 1 := by unfold World.alloc; exact Array.size_push _
  have hpjw : pj < w.heap.size := ((hst.hS pj hst.use.1.own.1)).2
  clear hst h hok
  generalize hW : w.alloc (.cells #[.int .i64 2, .int .i64 a, .string s, vk] 37) = W0 at *
  go_enter Try.func8, Try.ntmps8
  go_wp2
  go_quiet ((go_at_call 4; exact Calls.quiet_of_same (unhide HP _)))
  have hkq : Keeps (fun _ => False) W0 (W0.drewN nq) := (Keeps.refl _ W0).drewN nq
  generalize W0.drewN nq = X at *
  have HKX := hide hkq
  have hsx := hkq.size
  clear p0 p1 p2 p3 n0 n1 n2 n3 hkq
  subst hW
  obtain ⟨⟨p0, p1, p2, p3⟩, ⟨n0, n1, n2, n3⟩⟩ := (unhide HFA).facts X ((unhide HKX).mono (fun _ _ f => f.elim))
  obtain ⟨cap, W1, hbs, HB⟩ := run_bsOf X s
  obtain ⟨hB1, hk1⟩ := unhide HB
  have HB1 := hide hB1
  have HK1 := hide ((unhide HKX).trans hk1 (fun _ _ f => f))
  have hs1 := hk1.size
  have HJ1 := hide ((unhide HFA).use.keep (unhide HK1) (fun _ _ _ f => f))
  clear hB1 hk1 HB
  go_wp2_with fail
  go_at_call 23
  refine (use_truncate S (fun k => X.heap.size ≤ k) pj pd cap (j.low + n) _ s j m W1 (unhide HJ1) hy (by omega) (by omega) hs (unhide HB1) (by show ¬ X.heap.size ≤ pj; omega)).mono ?_
  rintro e w2 ⟨rfl, hj2, hk2⟩
  have HK2 := hide (((unhide HK1).mono (T := S) (fun _ _ f => f.elim)).trans hk2 (fun _ _ h => h))
  have HJ2 := hide hj2
  have hs2 := hk2.size
  clear p0 p1 p2 p3 n0 n1 n2 n3 hk2 hj2
  obtain ⟨⟨p0, p1, p2, p3⟩, ⟨n0, n1, n2, n3⟩⟩ := (unhide HFA).facts w2 (unhide HK2)
  have hheap := (unhide HK2).heap (unhide HFA).heap (fun d => (unhide HFA).hST ps d (unhide HFA).tps)
  have hfz := frozen_of_heap (o := 1) hheap
  have hfz2 := frozen_of_heap (o := 2) hheap
  have hfz3 := frozen_of_heap (o := 3) hheap
  have hown := (unhide HFA).own.keep (unhide HK2) (fun k _ t d => (unhide HFA).hST k d t.1)
  have hpsw : ps < w.heap.size := ((unhide HFA).hT _ (unhide HFA).tps).2
  have HHEAP := hide hheap
  have HOWN := hide hown
  have hne : w.heap.size ≠ ps := by omega
  have hne2 : ps ≠ w.heap.size := by omega
  clear hheap hown
  go_wp2
  go_ret
  have h6 := heap_setCell_same (o := 2) (heap_setCell_same (o := 3) (heap_setCell_same (o := 1) (unhide HHEAP) (.int .i64 (((j.low + n : Nat)) : Int))) (.string s)) (.int .i64 (j.L.length : Int))
  have hks : Keeps (fun k => k = ps) w2 (((w2.setCell ⟨ps, 1, none⟩ (.int .i64 (((j.low + n : Nat)) : Int))).setCell ⟨ps, 3, none⟩ (.string s)).setCell ⟨ps, 2, none⟩ (.int .i64 (j.L.length : Int))) := (((Keeps.refl (fun k => k = ps) w2).setCell (p := ⟨ps, 1, none⟩) (.inl rfl) _).setCell (p := ⟨ps, 3, none⟩) (.inl rfl) _).setCell (p := ⟨ps, 2, none⟩) (.inl rfl) _
  refine ⟨rfl, ⟨fun k => S k ∨ W1.heap.size ≤ k, T, fun k d => ?_, fun k d => ((unhide HFA).hT k d).1, fun k d d' => ?_, (unhide HJ2).keep hks (fun k _ d e => ?_), ⟨_, h6, (unhide HFA).tps, (unhide HOWN).keep hks (fun k _ d e => d.2 e)⟩⟩, ?_⟩
  · rcases d with d | d
    · exact ((unhide HFA).hS k d).1
    · omega
  · rcases d with d | d
    · exact (unhide HFA).hST k d d'
    · have := (unhide HFA).hT k d'; omega
  · rcases d with d | d
    · exact (unhide HFA).hST k d (by rw [e]; exact (unhide HFA).tps)
    · omega
  · refine (((unhide HKW).mono (T := fun k => B ≤ k) (fun _ _ f => f.elim)).trans (unhide HK2) (fun k _ d => ((unhide HFA).hS k d).1)).trans hks (fun k _ e => ?_)
    rw [e]; exact ((unhide HFA).hT _ (unhide HFA).tps).1

end Go.Proofs.Ythbmmbgkchiajaa
