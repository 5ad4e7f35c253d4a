
/- Sync, Pending and Syncs. -/
import Derived.Test.YthbmmbgkchiajaaGreatPlainW
namespace Go.Proofs.YthbmmbgkchiajaaGreat
open Go.RowKit

theorem sync_vend {o : Nat → Nat} {t : Nat} {w w2 w3 w4 : World} {v ob d r : Nat} {m m' : DM} {dirty : Bool} {cs : Array Value} (hS : Start o t w w2 v ob d r m dirty cs) (hd : m'.dur.length = m.dur.length) (hok : m'.ok)
    (hP : PDisk (fun k => o k = t + 1 ∧ k < w.heap.size) w3 d m') (hk3 : Keeps (fun k => o k = t + 1 ∧ k < w.heap.size) w2 w3)
    (hQ : RDisk (fun k => o k = t + 2 ∧ k < w.heap.size) w4 r m') (hk4 : Keeps (fun k => o k = t + 2 ∧ k < w.heap.size) w3 w4) : VStep o t w v m' w4 := by
  have s2 := hS.kp.size
  have hot := hS.ot
  have hvl := hS.vlt
  refine vol_end (a := 0) (d := d) (r := r) (dirty := dirty) ?_ hS.ot hS.vlt (Two.mono (Two.keep hP hk4 (fun k _ s h => by omega)) (fun _ _ s => .inl s)) (Two.mono hQ (fun _ _ s => .inl s)) hok ?_
  · rw [hd]
    exact hk4.heap (hk3.heap hS.hv (by omega)) (by omega)
  · have a := hS.kp.mono (T := fun k => o k = t ∨ o k = t + 1 ∨ o k = t + 2) (fun k _ e => .inl (by subst e; exact hot))
    exact (a.trans hk3 (fun i _ h => .inr (.inl h.1))).trans hk4 (fun i _ h => .inr (.inr h.1))

set_option maxRecDepth 100000 in
set_option maxHeartbeats 1600000 in
theorem plain_sync (o : Nat → Nat) (t pw v : Nat) (m : DM) (a b c : Int) (s : ByteArray) (vk vp : Value) (w : World) (hV : Vol o t w v m) (hN : m.puts.length * 72 ≤ 140737488355328) (hy : m.syncs < 9223372036854775807) :
    Calls Tryz.prog 125 #[.pointer (some ⟨pw, 0, none⟩), .pointer (some ⟨v, 0, none⟩), opv 4 a b c s vk vp] w fun e w' => e = .returned (.bool true) ∧ VStep o t w v ⟨durTo m.dur m.puts (fun _ => true) m.puts.length, [], m.syncs + 1⟩ w' := by
  obtain ⟨d, r, dirty, hS0, h1⟩ := vol_start hV (opc 4 a b c s vk vp)
  have HOK := hide hS0.ok
  have HS0 := hide hS0
  have hvl := lt_of_heap h1
  have cv0 := cell_of_heap (o := 0) h1
  have cv1 := cell_of_heap (o := 1) hS0.hv
  simp at cv0
  clear hV h1 hS0
  go_enter Tryz.func125, Tryz.ntmps125
  go_wp2_with fail
  generalize hW0 : w.alloc (.cells #[.int .i64 4, .int .i64 a, .int .i64 b, .int .i64 c, .string s, vk, vp] 81) = W0 at *
  clear hW0
  refine (dSync_any (fun k => o k = t + 1 ∧ k < w.heap.size) d m W0 (unhide HS0).p (unhide HOK) hN hy).mono ?_
  rintro e w3 ⟨rfl, hP3, hk3⟩
  have hv3 := hk3.heap (unhide HS0).hv (by have := (unhide HS0).ot; omega)
  have cv3 := cell_of_heap (o := 1) hv3
  simp at cv3
  have HQ3 := hide (Two.keep (unhide HS0).q hk3 (fun k _ q h => by omega) : RDisk (fun k => o k = t + 2 ∧ k < w.heap.size) w3 r m)
  have HP3 := hide hP3
  clear hP3 hv3
  go_wp2_with fail
  refine (rSync_any (fun k => o k = t + 2 ∧ k < w.heap.size) r m w3 (unhide HQ3) (unhide HOK) hN hy).mono ?_
  rintro e w4 ⟨rfl, hQ4, hk4⟩
  have HQ4 := hide hQ4
  clear hQ4
  go_wp2
  go_ret
  refine ⟨rfl, sync_vend (unhide HS0) (m' := ⟨durTo m.dur m.puts (fun _ => true) m.puts.length, [], m.syncs + 1⟩) (durTo_length _ _ _ _) ?_ (unhide HP3) hk3 (unhide HQ4) hk4⟩
  have hm := unhide HOK
  exact ⟨by simpa [durTo_length] using hm.len, durTo_size _ _ _ (fun q hq => hm.dur q hq) (fun x hx => (hm.puts x hx).2) _, by simp⟩

set_option maxRecDepth 100000 in
set_option maxHeartbeats 1600000 in
theorem plain_pending (o : Nat → Nat) (t pw v : Nat) (m : DM) (a b c : Int) (s : ByteArray) (vk vp : Value) (w : World) (hV : Vol o t w v m) (_hN : m.puts.length ≤ 9223372036854775807) :
    Calls Tryz.prog 125 #[.pointer (some ⟨pw, 0, none⟩), .pointer (some ⟨v, 0, none⟩), opv 5 a b c s vk vp] w fun e w' => e = .returned (.bool true) ∧ VStep o t w v m w' := by
  obtain ⟨d, r, dirty, hS0, h1⟩ := vol_start hV (opc 5 a b c s vk vp)
  obtain ⟨vd, vq, hbd, _, _, hqd⟩ := hS0.p
  obtain ⟨wd, wq, hbr, _, _, hqr⟩ := hS0.q
  obtain ⟨aq, cq, rfl, _⟩ := hqd.len
  obtain ⟨ar, cr, rfl, _⟩ := hqr.len
  have HS0 := hide hS0
  have cv0 := cell_of_heap (o := 0) hS0.hv
  have cv1 := cell_of_heap (o := 1) hS0.hv
  have cd1 := cell_of_heap (o := 1) hbd
  have cd2 := cell_of_heap (o := 2) hbd
  have cr1 := cell_of_heap (o := 1) hbr
  have cr2 := cell_of_heap (o := 2) hbr
  have co0 := cell_of_heap (o := 0) hS0.hob
  simp at cv0 cv1 cd1 cd2 cr1 cr2 co0
  have hd1 : ((m.puts.length : Int) == (m.puts.length : Int)) = true := by simp
  clear hV hS0 hbd hbr hqd hqr
  have hv0' := h1
  have hvl := lt_of_heap h1
  have cw0 := cell_of_heap (o := 0) h1
  simp at cw0
  clear hv0' h1
  go_enter Tryz.func125, Tryz.ntmps125
  go_wp2_with (first | (go_at_call 178; refine (dPending_any d _ _ _ _ cd1).mono ?_; rintro e w' ⟨rfl, rfl⟩) | (go_at_call 197; refine (dSyncs_any d _ _ cd2).mono ?_; rintro e w' ⟨rfl, rfl⟩))
  go_ret
  exact ⟨rfl, (unhide HS0).same⟩

end Go.Proofs.YthbmmbgkchiajaaGreat
