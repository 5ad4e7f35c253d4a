
/- crashed. -/
import Derived.Test.YthbmmbgkchiajaaGreatPlainS
namespace Go.Proofs.YthbmmbgkchiajaaGreat
open Go.RowKit

/-- A list of answers among the arguments: nil, or it lies below B. -/
def KeepArg (B : Nat) (w : World) (vk : Value) (bs : List Bool) : Prop :=
  (vk = .slice none 0 0 ∧ bs = []) ∨ ∃ a cap, vk = .slice (some a) bs.length cap ∧ bs.length ≤ cap ∧ ∀ j, j < bs.length → ∃ b o, a = ⟨b, o, none⟩ ∧ b < B ∧ w.cell? ⟨b, o + j, none⟩ = some (.bool (bs.getD j false))

def DM.crash (m : DM) (bs : List Bool) : DM := ⟨durTo m.dur m.puts (fun k => bs.getD k false) m.puts.length, [], m.syncs⟩
theorem DM.crash_ok {m : DM} (hm : m.ok) (bs : List Bool) : (m.crash bs).ok := ⟨by simpa [DM.crash, durTo_length] using hm.len, durTo_size _ _ _ (fun q hq => hm.dur q hq) (fun x hx => (hm.puts x hx).2) _, by simp [DM.crash]⟩

set_option maxRecDepth 100000 in
set_option maxHeartbeats 1600000 in
theorem crashed_nil (o : Nat → Nat) (t v : Nat) (m : DM) (a b c : Int) (s : ByteArray) (vp : Value) (w : World) (hV : Vol o t w v m) (hN : m.puts.length * 72 ≤ 140737488355328) :
    Calls Tryz.prog 121 #[.pointer (some ⟨v, 0, none⟩), opv 6 a b c s (.slice none 0 0) vp] w fun e w' => e = .returned (.bool true) ∧ VStep o t w v (m.crash []) w' := by
  obtain ⟨d, r, dirty, hS0, h1⟩ := vol_start hV (opc 6 a b c s (.slice none 0 0) vp)
  have HOK := hide hS0.ok
  have HS0 := hide hS0
  have cv0 := cell_of_heap (o := 0) hS0.hv
  have hvl := lt_of_heap h1
  simp at cv0
  clear hV h1 hS0
  go_enter Tryz.func121, Tryz.ntmps121
  go_wp2_with fail
  generalize hW0 : w.alloc (.cells #[.int .i64 6, .int .i64 a, .int .i64 b, .int .i64 c, .string s, .slice none 0 0, vp] 81) = W0 at *
  clear hW0
  refine (lentBools_nil W0).mono ?_
  rintro e w1 ⟨rfl, rfl⟩
  go_wp2_with fail
  refine (dCrash_any (fun k => o k = t + 1 ∧ k < w.heap.size) d m none 0 [] w1 (unhide HS0).p (unhide HOK) hN (fun j hj => by simp at hj) (by simp) (by simp)).mono ?_
  rintro e w3 ⟨rfl, hP3, hk3⟩
  have hv3 := hk3.heap (unhide HS0).hv (by have := (unhide HS0).ot; omega)
  have hob3 := hk3.heap (unhide HS0).hob (by omega)
  have cv30 := cell_of_heap (o := 0) hv3
  have cv31 := cell_of_heap (o := 1) hv3
  have cv34 := cell_of_heap (o := 4) hv3
  have co35 := cell_of_heap (o := 5) hob3
  simp at cv30 cv31 cv34 co35
  obtain ⟨vd, vq, hbd, _, _, hqd⟩ := id hP3
  obtain ⟨aq, cq, rfl, _⟩ := hqd.len
  have cd1 := cell_of_heap (o := 1) hbd
  simp at cd1
  have HQ3 := hide (Two.keep (unhide HS0).q hk3 (fun k _ q h => by omega) : RDisk (fun k => o k = t + 2 ∧ k < w.heap.size) w3 r m)
  have HP3 := hide hP3
  have HV3 := hide hv3
  have HO3 := hide hob3
  clear hP3 hv3 hbd hqd hob3
  go_wp2_with fail
  refine (wholeBools_nil _ w3).mono ?_
  rintro e w4 ⟨rfl, rfl⟩
  go_wp2_with fail
  refine (dPending_any d _ _ _ w4 cd1).mono ?_
  rintro e w5 ⟨rfl, rfl⟩
  go_wp2_with fail
  go_region_held3 (fun w' => w'.cell? ⟨v, 1, none⟩ = some (.pointer (some ⟨r, 0, none⟩)) ∧ w'.cell? ⟨w.heap.size, 5, none⟩ = some (.slice none 0 0)) (first | exact ⟨cv31, co35⟩ | exact ⟨cv6, co6⟩) ((go_at_call 180; refine (rCrash_any (fun k => o k = t + 2 ∧ k < w.heap.size) r m none 0 [] w5.drew (unhide HQ3) (unhide HOK) hN (fun j hj => by simp at hj) (by simp) (by simp)).mono ?_; rintro e w6 ⟨rfl, hQ6, hk6'⟩; have hk6 := hk6'.undrew; clear hk6'; have cv6 := cell_of_heap (o := 1) (hk6.heap (unhide HV3) (by have := (unhide HS0).ot; omega)); have co6 := cell_of_heap (o := 5) (hk6.heap (unhide HO3) (by omega)); simp at cv6 co6))
  have HQ6 := hide hQ6
  clear hQ6
  go_wp2
  go_ret
  exact ⟨rfl, sync_vend (m' := m.crash []) (unhide HS0) (durTo_length _ _ _ _) (DM.crash_ok (unhide HOK) _) (unhide HP3) hk3 (unhide HQ6) hk6⟩

theorem crash_vend {o : Nat → Nat} {t : Nat} {w w2 w3 w4 w6 : World} {v ob d r g : Nat} {m m' : DM} {dirty : Bool} {cs : Array Value} (hS : Start o t w w2 v ob d r m dirty cs) (hd : m'.dur.length = m.dur.length) (hok : m'.ok) (hg : w.heap.size ≤ g)
    (hP : PDisk (fun k => o k = t + 1 ∧ k < w.heap.size) w3 d m') (hk3 : Keeps (fun k => o k = t + 1 ∧ k < w.heap.size) w2 w3) (hk4 : Keeps (fun k => k = g) w3 w4)
    (hQ : RDisk (fun k => o k = t + 2 ∧ k < w.heap.size) w6 r m') (hk6 : Keeps (fun k => o k = t + 2 ∧ k < w.heap.size) w4 w6) : VStep o t w v m' w6 := by
  have s2 := hS.kp.size
  have hot := hS.ot
  have hvl := hS.vlt
  refine vol_end (a := 0) (d := d) (r := r) (dirty := dirty) ?_ hS.ot hS.vlt (Two.mono (Two.keep (Two.keep hP hk4 (fun k _ s h => by omega)) hk6 (fun k _ s h => by omega)) (fun _ _ s => .inl s)) (Two.mono hQ (fun _ _ s => .inl s)) hok ?_
  · rw [hd]
    exact hk6.heap (hk4.heap (hk3.heap hS.hv (by omega)) (by omega)) (by omega)
  · have a := hS.kp.mono (T := fun k => o k = t ∨ o k = t + 1 ∨ o k = t + 2) (fun k _ e => .inl (by subst e; exact hot))
    exact ((a.trans hk3 (fun i _ h => .inr (.inl h.1))).trans hk4 (fun i hi h => by omega)).trans hk6 (fun i _ h => .inr (.inr h.1))

set_option maxRecDepth 100000 in
set_option maxHeartbeats 1600000 in
theorem crashed_some (B : Nat) (o : Nat → Nat) (t v : Nat) (m : DM) (a b c : Int) (s : ByteArray) (ak : Addr) (cap : Nat) (bs : List Bool) (vp : Value) (w : World) (hV : Vol o t w v m) (hN : m.puts.length * 72 ≤ 140737488355328) (hB : ∀ k, k < B → o k = 0) (hBw : B ≤ w.heap.size) (ht : 5 ≤ t)
    (hbs : bs.length ≤ 140737488351232) (hcap : bs.length ≤ cap) (hr : ∀ j, j < bs.length → ∃ b o, ak = ⟨b, o, none⟩ ∧ b < B ∧ w.cell? ⟨b, o + j, none⟩ = some (.bool (bs.getD j false))) :
    Calls Tryz.prog 121 #[.pointer (some ⟨v, 0, none⟩), opv 6 a b c s (.slice (some ak) bs.length cap) vp] w fun e w' => e = .returned (.bool true) ∧ VStep o t w v (m.crash bs) w' := by
  obtain ⟨d, r, dirty, hS0, h1⟩ := vol_start hV (opc 6 a b c s (.slice (some ak) bs.length cap) vp)
  have HOK := hide hS0.ok
  have HS0 := hide hS0
  have cv0 := cell_of_heap (o := 0) hS0.hv
  have hvl := lt_of_heap h1
  simp at cv0
  have hot := hS0.ot
  have HR := hide hr
  have HB := hide hB
  clear hV h1 hS0 hr hB
  go_enter Tryz.func121, Tryz.ntmps121
  go_wp2_with fail
  have hK0 : Keeps (fun _ => False) w (w.alloc (.cells #[.int .i64 6, .int .i64 a, .int .i64 b, .int .i64 c, .string s, .slice (some ak) bs.length cap, vp] 81)) := (Keeps.refl _ _).alloc _
  generalize hW0 : w.alloc (.cells #[.int .i64 6, .int .i64 a, .int .i64 b, .int .i64 c, .string s, .slice (some ak) bs.length cap, vp] 81) = W0 at *
  clear hW0
  have s0 := hK0.size
  refine (lentBools_some ak cap bs W0 (by omega) (fun j hj => ?_)).mono ?_
  · obtain ⟨b', o', rfl, hb1, hb2⟩ := unhide HR j hj
    rw [Addr.add_mid]
    exact (hK0.cell (p := ⟨b', o' + j, none⟩) (by show b' < _; omega) (fun f => f)).trans hb2
  rintro e w1 ⟨rfl, hw1⟩
  have hk01 : Keeps (fun _ => False) W0 w1 := by rw [hw1]; exact (Keeps.refl _ _).alloc _
  have hlent : w1.heap[W0.heap.size]? = some (.cells (lentB bs 8) 4 (0, 0)) := by rw [hw1]; exact heap_alloc_last W0 _
  have s1 := lt_of_heap hlent
  have HS1 := hide ((unhide HS0).keep hk01)
  have HL := hide hlent
  have hkw1 := hK0.trans hk01 (fun _ _ f => f)
  have hKl : Keep (fun k => o k = t + 1 ∧ k < w.heap.size) w1 (some ⟨W0.heap.size, 0, none⟩) bs := fun j hj => ⟨W0.heap.size, 0, rfl, s1, by omega, by rw [cell_of_heap hlent, Nat.zero_add]; exact lentB_lo bs j hj⟩
  have HKL := hide hKl
  have cw0 := cell_of_heap (o := 0) (unhide HS1).hv
  simp at cw0
  clear hw1 hlent hKl cv0
  go_wp2_with fail
  refine (dCrash_any (fun k => o k = t + 1 ∧ k < w.heap.size) d m (some ⟨W0.heap.size, 0, none⟩) (bs.length + 8) bs w1 (unhide HS1).p (unhide HOK) hN (unhide HKL) (by omega) (by omega)).mono ?_
  rintro e w3 ⟨rfl, hP3, hk3⟩
  have hv3 := hk3.heap (unhide HS1).hv (by omega)
  have hob3 := hk3.heap (unhide HS1).hob (by omega)
  have hl3 := hk3.heap (unhide HL) (by omega)
  have s3 := hk3.size
  have co35 := cell_of_heap (o := 5) hob3
  simp at co35
  have HQ3 := hide (Two.keep (unhide HS1).q hk3 (fun k _ q h => by omega) : RDisk (fun k => o k = t + 2 ∧ k < w.heap.size) w3 r m)
  have hr3 : ∀ j, j < bs.length → ∃ b o, ak = ⟨b, o, none⟩ ∧ b ≠ W0.heap.size ∧ w3.cell? ⟨b, o + j, none⟩ = some (.bool (bs.getD j false)) := by
    intro j hj
    obtain ⟨b', o', e1, hb1, hb2⟩ := unhide HR j hj
    refine ⟨b', o', e1, by omega, ?_⟩
    have h0 := unhide HB b' hb1
    rw [hk3.cell (p := ⟨b', o' + j, none⟩) (by show b' < _; have := hkw1.size; omega) (by show ¬ (o b' = t + 1 ∧ _); omega), hkw1.cell (p := ⟨b', o' + j, none⟩) (by show b' < _; omega) (fun f => f)]
    exact hb2
  have HWB := hide (wholeBools_some ak cap W0.heap.size bs w3 (by omega) hcap hr3 hl3)
  have HR3 := hide hr3
  have HP3 := hide hP3
  have HV3 := hide hv3
  have HO3 := hide hob3
  clear hP3 hv3 hob3 hl3 hr3
  go_wp2_with fail
  refine (unhide HWB).mono ?_
  rintro e w4 ⟨rfl, hk4⟩
  have s4 := hk4.size
  have hv4 := hk4.heap (unhide HV3) (by omega)
  have hob4 := hk4.heap (unhide HO3) (by have := (unhide HS1).obl; have := lt_of_heap (unhide HS0).hob; omega)
  have HP4 := hide (Two.keep (unhide HP3) hk4 (fun k _ q h => by omega) : PDisk (fun k => o k = t + 1 ∧ k < w.heap.size) w4 d (m.crash bs))
  obtain ⟨vd, vq, hbd, _, _, hqd⟩ := unhide HP4
  obtain ⟨aq, cq, rfl, _⟩ := hqd.len
  have cd1 := cell_of_heap (o := 1) hbd
  have cv40 := cell_of_heap (o := 0) hv4
  have cv41 := cell_of_heap (o := 1) hv4
  have cv44 := cell_of_heap (o := 4) hv4
  have co45 := cell_of_heap (o := 5) hob4
  simp at cd1 cv40 cv41 cv44 co45
  have HQ4 := hide (Two.keep (unhide HQ3) hk4 (fun k _ q h => by omega) : RDisk (fun k => o k = t + 2 ∧ k < w.heap.size) w4 r m)
  have hK4 : Keep (fun k => o k = t + 2 ∧ k < w.heap.size) w4 (some ak) bs := by
    intro j hj
    obtain ⟨b', o', e1, hb1, hb2⟩ := unhide HR3 j hj
    obtain ⟨b2, o2, e2, hb3, _⟩ := unhide HR j hj
    rw [e1] at e2
    cases e2
    have h0 := unhide HB b' hb3
    have hbl := World.block_lt_of_cell? w3 _ hb2
    exact ⟨b', o', by rw [e1], Nat.lt_of_lt_of_le hbl s4, by omega, (hk4.cell (p := ⟨b', o' + j, none⟩) hbl (fun e => hb1 e)).trans hb2⟩
  have HK4 := hide hK4
  have HV4 := hide hv4
  have HO4 := hide hob4
  clear hbd hqd hK4 hv4 hob4 co35
  go_wp2_with fail
  refine (dPending_any d _ _ _ w4 cd1).mono ?_
  rintro e w5 ⟨rfl, rfl⟩
  go_wp2_with fail
  go_region_held3 (fun w' => w'.cell? ⟨v, 1, none⟩ = some (.pointer (some ⟨r, 0, none⟩)) ∧ w'.cell? ⟨w.heap.size, 5, none⟩ = some (.slice (some ak) bs.length cap)) (first | exact ⟨cv41, co45⟩ | exact ⟨cv6, co6⟩) ((go_at_call 180; refine (rCrash_any (fun k => o k = t + 2 ∧ k < w.heap.size) r m (some ak) cap bs w5.drew (unhide HQ4) (unhide HOK) hN (unhide HK4) (by omega) hcap).mono ?_; rintro e w6 ⟨rfl, hQ6, hk6'⟩; have hk6 := hk6'.undrew; clear hk6'; have cv6 := cell_of_heap (o := 1) (hk6.heap (unhide HV4) (by omega)); have co6 := cell_of_heap (o := 5) (hk6.heap (unhide HO4) (by omega)); simp at cv6 co6))
  have HQ6 := hide hQ6
  clear hQ6
  go_wp2
  go_ret
  exact ⟨rfl, crash_vend (m' := m.crash bs) (unhide HS1) (durTo_length _ _ _ _) (DM.crash_ok (unhide HOK) _) s0 (unhide HP3) hk3 hk4 (unhide HQ6) hk6⟩

end Go.Proofs.YthbmmbgkchiajaaGreat
