
/- notes: a step that is no opening. -/
import Derived.Test.YthbmmbgkchiajaaKShelf
namespace Go.Proofs.Ythbmmbgkchiajaa
open Go.RowKit

attribute [local go_sem ↓] quoI_eq bsOf_eq

set_option maxRecDepth 100000 in
set_option maxHeartbeats 400000 in
theorem notes_full (B ps pj pd : Nat) (a : Int) (s : ByteArray) (vk : Value) (j : JM) (m : DM) (w : World) (h : KState B w ps pj pd j m) (hs : s.size ≤ 40) (hf : j.full) :
    Calls Try.prog 8 #[.pointer (some ⟨ps, 0, none⟩), .pointer (some ⟨pj, 0, none⟩), .int .i64 (j.ring : Int), .int .i64 (j.per : Int), .agg #[.int .i64 0, .int .i64 a, .string s, vk]] w fun e w' => e = .returned (.bool true) ∧ KState B w' ps pj pd j m ∧ Keeps (fun k => B ≤ k) w w' := by
  have HK := hide h
  obtain ⟨S, T, al, cl, hst⟩ := h.start 0 a s vk
  have hok := hst.use.2.1.ok
  have hlim := hok.lim
  have hlow := hok.low
  have hring := hok.ring
  have hfew := hok.few
  have hsafe := hst.use.2.1.safe
  have q1 := fun W => run_quoI W j.L.length j.per hlim.1 hlim.2.2
  have q2 : ∀ W, (quoI (.int .i64 ((j.low : Int) - 1)) (.int .i64 (j.per : Int))).run Try.prog W = .ok (.int .i64 (((j.low - 1) / j.per : Nat) : Int)) W := fun W => by
    have := run_quoI W (j.low - 1) j.per hlim.2.1 hlim.2.2
    rwa [show ((j.low - 1 : Nat) : Int) = (j.low : Int) - 1 by omega] at this
  have b1 := Nat.div_le_self j.L.length j.per
  have b2 := Nat.div_le_self (j.low - 1) j.per
  obtain ⟨cap, W1, hbs, HB⟩ := run_bsOf (w.alloc (.cells #[.int .i64 0, .int .i64 a, .string s, vk] 37)) s
  have hsz : (w.alloc (.cells #[.int .i64 0, .int .i64 a, .string s, vk] 37)).heap.size = w.heap.size + 1 := by unfold World.alloc; exact Array.size_push _
  rw [hsz] at hbs HB
  obtain ⟨hB1, hk1⟩ := unhide HB
  have HC := hide (use_append_full S pj pd s.size cap (some ⟨w.heap.size + 1, 0, none⟩) j m W1 (hst.use.keep hk1 (fun _ _ _ f => f)) hs hf)
  have HFA := hide hst.facts
  have HK1 := hide hk1
  have HKW := hide (hst.keeps.trans hk1 (fun _ _ f => f))
  unfold JM.full at hf
  generalize j.L.length / j.per = A1 at *
  generalize (j.low - 1) / j.per = A2 at *
  have hge : decide ((j.ring : Int) ≤ (A1 : Int) - (A2 : Int)) = true := by simp; omega
  obtain ⟨⟨p0, p1, p2, p3⟩, ⟨n0, n1, n2, n3⟩⟩ := hst.facts W1 (hk1.mono (fun _ _ f => f.elim))
  clear hst hB1 hk1 HB h hok hsz
  go_enter Try.func8, Try.ntmps8
  go_wp2_with fail
  go_at_call 21
  refine (unhide HC).mono ?_
  rintro e w2 ⟨rfl, hk2⟩
  have HKW2 := hide ((unhide HKW).trans hk2 (fun _ _ f => f))
  clear p0 p1 p2 p3 n0 n1 n2 n3
  obtain ⟨⟨p0, p1, p2, p3⟩, ⟨n0, n1, n2, n3⟩⟩ := unhide HFA w2 (((unhide HK1).trans hk2 (fun _ _ f => f)).mono (fun _ _ f => f.elim))
  clear hk2
  go_wp2
  go_quiet (fail)
  go_wp2
  go_ret
  exact ⟨rfl, ((unhide HK).keep (unhide HKW2)).keep ((Keeps.refl _ _).drewN _), (((unhide HKW2).mono (T := fun k => B ≤ k) (fun _ _ f => f.elim)).drewN _)⟩

set_option maxRecDepth 100000 in
set_option maxHeartbeats 400000 in
theorem notes_yes (B ps pj pd : Nat) (a : Int) (s : ByteArray) (vk : Value) (j : JM) (m : DM) (w : World) (h : KState B w ps pj pd j m) (hs : s.size ≤ 40) (hf : ¬ j.full) (hfl : (j.L.length + 1) * 16 ≤ 140737488355328) (hB : B ≤ w.heap.size) :
    Calls Try.prog 8 #[.pointer (some ⟨ps, 0, none⟩), .pointer (some ⟨pj, 0, none⟩), .int .i64 (j.ring : Int), .int .i64 (j.per : Int), .agg #[.int .i64 0, .int .i64 a, .string s, vk]] w fun e w' => e = .returned (.bool true) ∧ KState B w' ps pj pd { j with L := j.L ++ [s] } (m.put (slot j.ring j.per (j.L.length + 1)) (packB (j.L.length + 1) 0 s)) ∧ Keeps (fun k => B ≤ k) w w' := by
  have HK := hide h
  obtain ⟨S, T, al, cl, hst⟩ := h.start 0 a s vk
  have hok := hst.use.2.1.ok
  have hlim := hok.lim
  have hlow := hok.low
  have hring := hok.ring
  have hfew := hok.few
  have hsafe := hst.use.2.1.safe
  have q1 := fun W => run_quoI W j.L.length j.per hlim.1 hlim.2.2
  have q2 : ∀ W, (quoI (.int .i64 ((j.low : Int) - 1)) (.int .i64 (j.per : Int))).run Try.prog W = .ok (.int .i64 (((j.low - 1) / j.per : Nat) : Int)) W := fun W => by
    have := run_quoI W (j.low - 1) j.per hlim.2.1 hlim.2.2
    rwa [show ((j.low - 1 : Nat) : Int) = (j.low : Int) - 1 by omega] at this
  have b1 := Nat.div_le_self j.L.length j.per
  have b2 := Nat.div_le_self (j.low - 1) j.per
  obtain ⟨cap, W1, hbs, HB⟩ := run_bsOf (w.alloc (.cells #[.int .i64 0, .int .i64 a, .string s, vk] 37)) s
  have hsz : (w.alloc (.cells #[.int .i64 0, .int .i64 a, .string s, vk] 37)).heap.size = w.heap.size + 1 := by unfold World.alloc; exact Array.size_push _
  rw [hsz] at hbs HB
  obtain ⟨hB1, hk1⟩ := unhide HB
  obtain ⟨i0, hi, hz0, hz1, hz2⟩ := info_parts infoStr
  have hpjw := hst.use.1.own.1
  have HC := hide (use_append_yes S (fun k => w.heap.size + 1 ≤ k) pj pd cap (some ⟨w.heap.size + 1, 0, none⟩) s j m W1 (hst.use.keep hk1 (fun _ _ _ f => f)) hs hB1 hf (by omega))
  have HFA := hide hst
  have HK1 := hide hk1
  have HKW := hide (hst.keeps.trans hk1 (fun _ _ f => f))
  have hs1 : w.heap.size + 1 ≤ W1.heap.size := by rw [← hsz]; exact hk1.size
  unfold JM.full at hf
  generalize j.L.length / j.per = A1 at *
  generalize (j.low - 1) / j.per = A2 at *
  have hge : decide ((j.ring : Int) ≤ (A1 : Int) - (A2 : Int)) = false := by simp; omega
  obtain ⟨⟨p0, p1, p2, p3⟩, ⟨n0, n1, n2, n3⟩⟩ := hst.facts W1 (hk1.mono (fun _ _ f => f.elim))
  clear hst hB1 hk1 HB h hok hsz
  go_enter Try.func8, Try.ntmps8
  go_wp2_with fail
  go_at_call 21
  refine (unhide HC).mono ?_
  rintro e w2 ⟨rfl, hj2, hk2⟩
  have HK2 := hide (((unhide HK1).mono (T := S) (fun _ _ f => f.elim)).trans hk2 (fun _ _ h => h))
  have HJ2 := hide hj2
  have hs2 := hk2.size
  clear p0 p1 p2 p3 n0 n1 n2 n3
  obtain ⟨⟨p0, p1, p2, p3⟩, ⟨n0, n1, n2, n3⟩⟩ := (unhide HFA).facts w2 (unhide HK2)
  clear hk2 hj2 HC
  go_wp2
  go_quiet (fail)
  have hkq : Keeps (fun _ => False) w2 (w2.drewN nq) := (Keeps.refl _ w2).drewN nq
  generalize w2.drewN nq = X at *
  have HKX := hide ((unhide HK2).trans (hkq.mono (T := S) (fun _ _ f => f.elim)) (fun _ _ h => h))
  have HJX := hide ((unhide HJ2).keep hkq (fun _ _ _ f => f))
  have hsx := hkq.size
  clear p0 p1 p2 p3 n0 n1 n2 n3 hkq
  obtain ⟨⟨p0, p1, p2, p3⟩, ⟨n0, n1, n2, n3⟩⟩ := (unhide HFA).facts X (unhide HKX)
  have hown := (unhide HFA).own.keep (unhide HKX) (fun k _ t d => (unhide HFA).hST k d t.1)
  have hheap := (unhide HKX).heap (unhide HFA).heap (fun d => (unhide HFA).hST ps d (unhide HFA).tps)
  have hfz := frozen_of_heap (o := 0) hheap
  have hpn : ¬ (Value.slice al j.L.length cl).ownBlock = some ps := fun e => (hown.2 _ e).2 rfl
  have hpsl : ps < X.heap.size := lt_of_heap hheap
  have hnbl : w.heap.size < X.heap.size := by omega
  have HOWN := hide hown
  have HHEAP := hide hheap
  clear hheap
  go_wp2
  go_region_law ((refine step_append_lies _ (by rfl) _ _ _ (by rfl) 0 9 i0 _ 1 16 Try.underlying32 hi hz0 hz1 hz2 rfl (by omega) (.slice al j.L.length cl) j.L.length (j.L.map Value.string) (by rfl) ((hown.1.alloc _).drew) ⟨X.heap.size, 0, none⟩ 1 1 [.string s] (by rfl) (by rfl) (World.news_of_block (cs := #[.string s]) (t := 9) (fr := (0, 0)) (by exact heap_alloc_new _ _)) (by simp [Value.oneCell']) (by omega) (by unfold maxLen; omega) hfl (Nat.zero_le _) (X.heap.size + 1) (by simp) ?_; intro gg cap' w5 hown1 hgrow hat hlt1; have hk5 := keeps_grown ((Keeps.refl _ X).alloc _).drew hgrow; have hb5 := hk5.heap (unhide HHEAP) hpn; have c5 := cell_of_heap (o := 0) hb5; have f5 := frozen_of_heap (o := 0) hb5; simp at c5; have r2 : w5.cell? ⟨w.heap.size, 2, none⟩ = some (.string s) := (hk5.cell (p := ⟨w.heap.size, 2, none⟩) (by exact Nat.lt_of_lt_of_le (Nat.lt_succ_self _) (Nat.le_trans hs1 (Nat.le_trans hs2 hsx))) (fun e => Nat.lt_irrefl _ ((unhide HFA).hT _ ((unhide HOWN).2 _ e).1).2)).trans n2))
  all_goals
    obtain ⟨z1, z2, z3⟩ := Own.field (f := 0) (unhide HHEAP) (unhide HOWN) (fun h => h.2 rfl) hk5 hown1 hat (by omega)
    have c6 := cell_of_heap (o := 0) z1
    simp at c6
    have HZ1 := hide z1
    have HZ2 := hide z2
    have HZ3 := hide z3
    generalize w5.setCell ⟨ps, 0, none⟩ (.slice (some ⟨gg, 0, none⟩) (j.L.length + 1) cap') = X6 at *
    clear z1 z2 z3 hown1 hgrow hk5 hb5 c5 f5 r2
    go_wp2
    go_ret
    refine ⟨by simp, ?_, ?_⟩
    · have hX := unhide HKX
      refine ⟨fun k => (S k ∨ W1.heap.size ≤ k) ∧ k < X.heap.size, fun k => T k ∨ X.heap.size ≤ k, fun k d => ?_, fun k d => ?_, fun k d d' => ?_, ?_, ?_⟩
      · rcases d.1 with d | d
        · exact ((unhide HFA).hS k d).1
        · omega
      · rcases d with d | d
        · exact ((unhide HFA).hT k d).1
        · omega
      · rcases d' with d' | d'
        · rcases d.1 with d | d
          · exact (unhide HFA).hST k d d'
          · have := (unhide HFA).hT k d'; omega
        · omega
      · refine JUse.keep ((unhide HJX).mono (fun k l d => ⟨d, l⟩)) (unhide HZ3) (fun k l d e => ?_)
        have ht : T k := by
          rcases e with e | e
          · rw [e]; exact (unhide HFA).tps
          · exact e.1
        rcases d.1 with d | d
        · exact (unhide HFA).hST k d ht
        · have := (unhide HFA).hT k ht; omega
      · refine ⟨_, unhide HZ1, .inl (unhide HFA).tps, ?_⟩
        have e1 : (j.L ++ [s]).length = j.L.length + 1 := by simp
        have e2 : (j.L ++ [s]).map Value.string = j.L.map Value.string ++ [.string s] := by simp
        show Own _ _ _ _ _ (j.L ++ [s]).length ((j.L ++ [s]).map Value.string)
        rw [e1, e2]
        refine (unhide HZ2).mono (fun k l d => ?_)
        rcases d with d | d
        · exact ⟨.inl d.1, d.2⟩
        · exact ⟨.inr d, by have := (unhide HFA).hT _ (unhide HFA).tps; omega⟩
    · refine (((unhide HFA).keeps.mono (T := fun k => B ≤ k) (fun _ _ f => f.elim)).trans (unhide HKX) (fun k _ d => ((unhide HFA).hS k d).1)).trans (unhide HZ3) (fun k _ e => ?_)
      rcases e with e | e
      · rw [e]; exact ((unhide HFA).hT _ (unhide HFA).tps).1
      · exact ((unhide HFA).hT _ e.1).1

end Go.Proofs.Ythbmmbgkchiajaa
