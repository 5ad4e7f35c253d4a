
/- A write. -/
import Derived.Test.YthbmmbgkchiajaaGreatPlain
namespace Go.Proofs.YthbmmbgkchiajaaGreat
open Go.RowKit

theorem Keeps.undrew {S : Nat → Prop} {w w' : World} (h : Keeps S w.drew w') : Keeps S w w' := ⟨h.os, h.tape, h.output, h.size, h.block⟩

theorem write_end {o : Nat → Nat} {t : Nat} {w w2 w3 w4 w5 : World} {v ob d r g : Nat} {m m' : DM} {dirty : Bool} {cs : Array Value} (hS : Start o t w w2 v ob d r m dirty cs) (hd : m'.dur.length = m.dur.length) (hok : m'.ok) (hg : w.heap.size ≤ g) (hg2 : g < w2.heap.size)
    (hP : PDisk (fun k => (o k = t + 1 ∧ k < w.heap.size) ∨ w2.heap.size ≤ k) w3 d m') (hk3 : Keeps (fun k => o k = t + 1 ∧ k < w.heap.size) w2 w3)
    (hQ : RDisk (fun k => (o k = t + 2 ∧ k < w.heap.size) ∨ w3.heap.size ≤ k) w4 r m') (hk4 : Keeps (fun k => o k = t + 2 ∧ k < w.heap.size) w3 w4) (hk5 : Keeps (fun k => k = g) w4 w5) : VStep o t w v m' w5 := by
  have s2 := hS.kp.size
  have s3 := hk3.size
  have s4 := hk4.size
  have hot := hS.ot
  have hvl := hS.vlt
  refine vol_end (a := w3.heap.size) (d := d) (r := r) (dirty := dirty) ?_ hS.ot hS.vlt ?_ ?_ hok ?_
  · rw [hd]
    exact hk5.heap (hk4.heap (hk3.heap hS.hv (by omega)) (by omega)) (by omega)
  · have q := (Two.mono hP (T := fun k => (o k = t + 1 ∧ k < w.heap.size) ∨ (w2.heap.size ≤ k ∧ k < w3.heap.size)) (fun k l s => by rcases s with s | s; exact .inl s; exact .inr ⟨s, l⟩))
    have q2 := Two.keep q hk4 (fun k _ s h => by rcases s with s | s <;> omega)
    have q3 := Two.keep q2 hk5 (fun k _ s h => by rcases s with s | s <;> omega)
    exact Two.mono q3 (fun k _ s => by rcases s with s | s; exact .inl s; exact .inr ⟨by omega, s.2⟩)
  · have q3 := Two.keep hQ hk5 (fun k _ s h => by rcases s with s | s <;> omega)
    exact Two.mono q3 (fun k _ s => by rcases s with s | s; exact .inl s; exact .inr ⟨by omega, s⟩)
  · have a := hS.kp.mono (T := fun k => o k = t ∨ o k = t + 1 ∨ o k = t + 2) (fun k _ e => .inl (by subst e; exact hot))
    exact ((a.trans hk3 (fun i _ h => .inr (.inl h.1))).trans hk4 (fun i _ h => .inr (.inr h.1))).trans hk5 (fun i hi h => by omega)

set_option maxRecDepth 100000 in
set_option maxHeartbeats 1600000 in
theorem plain_write_ok (o : Nat → Nat) (t pw v : Nat) (m : DM) (a c : Int) (i : Nat) (s : ByteArray) (vk vp : Value) (w : World) (hV : Vol o t w v m) (hN : (m.puts.length + 1) * 72 ≤ 140737488355328)
    (_hs : s.size ≤ 140737488351232) (hc0 : -9223372036854775808 ≤ c) (hc1 : c ≤ 9223372036854775807) (hi : i < m.dur.length) (h64 : (sectorOf c s).size = 64) :
    Calls Tryz.prog 125 #[.pointer (some ⟨pw, 0, none⟩), .pointer (some ⟨v, 0, none⟩), opv 2 a i c s vk vp] w fun e w' => e = .returned (.bool true) ∧ VStep o t w v (m.put i (sectorOf c s)) w' := by
  obtain ⟨d, r, dirty, hS0, h1⟩ := vol_start_dirty hV (opc 2 a i c s vk vp)
  have hok := hS0.ok
  have HOK := hide hok
  have c5 := cell_of_heap (o := 5) h1
  have f5 := frozen_of_heap (o := 5) h1
  simp at c5
  have hvl := lt_of_heap h1
  have HS0 := hide hS0
  clear hV h1 hok hS0
  go_enter Tryz.func125, Tryz.ntmps125
  go_wp2_with fail
  generalize hW0 : (w.setCell ⟨v, 5, none⟩ (.bool true)).alloc (.cells #[.int .i64 2, .int .i64 a, .int .i64 i, .int .i64 c, .string s, vk, vp] 81) = W0 at *
  clear hW0
  refine (sector_any _ _ _ _ _ c s W0 hc0 hc1).mono ?_
  rintro e w1 ⟨rfl, hk1⟩
  have HS1 := hide ((unhide HS0).keep hk1)
  generalize hsp : sectorOf c s = sp at *
  have HSP := hide hsp
  clear hsp
  have s01 := (unhide HS1).kp.size
  go_wp2_with fail
  refine (lentBytes_any sp w1 (by omega)).mono ?_
  rintro e w2 ⟨rfl, hw2⟩
  have hlk : Keeps (fun _ => False) w1 w2 := by rw [hw2]; exact (Keeps.refl _ _).alloc _
  have hlent : w2.heap[w1.heap.size]? = some (.cells (lentArr sp 8) 5 (0, 0)) := by rw [hw2]; exact heap_alloc_last w1 _
  have HS2 := hide ((unhide HS1).keep hlk)
  have HLENT := hide hlent
  have s12 := lt_of_heap hlent
  have hr2 : w2.rangeAt w1.heap.size 0 (bcells sp) := by
    intro j u hj
    have hj' := (List.getElem?_eq_some_iff.1 hj).1
    rw [bcells_length] at hj'
    rw [cell_of_heap hlent, Nat.zero_add, lentArr_lo sp j hj']; exact hj
  have HR2 := hide hr2
  clear hw2 hlk hlent hr2
  have cv0 := cell_of_heap (o := 0) (unhide HS2).hv
  have cob2 := cell_of_heap (o := 2) (unhide HS2).hob
  simp at cv0 cob2
  go_wp2_with fail
  go_region_held3 (fun w' => w'.cell? ⟨v, 0, none⟩ = some (.pointer (some ⟨d, 0, none⟩)) ∧ w'.cell? ⟨w.heap.size, 2, none⟩ = some (.int .i64 (i : Int))) (first | exact ⟨cv0, cob2⟩ | exact ⟨cv3, cob3⟩) ((go_at_call 190; refine (dWrite_yes (fun k => o k = t + 1 ∧ k < w.heap.size) d m i w1.heap.size 72 sp w2.drew (unhide HS2).p (unhide HOK) hi h64 hN (unhide HR2) s12 (by omega) (by omega)).mono ?_; rintro e w3 ⟨rfl, hP3, hk3'⟩; have hk3 := hk3'.undrew; clear hk3'; have hv3 := hk3.heap (unhide HS2).hv (by have := (unhide HS2).ot; omega); have hob3 := hk3.heap (unhide HS2).hob (by omega); have cv3 := cell_of_heap (o := 0) hv3; have cob3 := cell_of_heap (o := 2) hob3; simp at cv3 cob3))
  have hQ3 : RDisk (fun k => o k = t + 2 ∧ k < w.heap.size) w3 r m := Two.keep (unhide HS2).q hk3 (fun k _ q h => by omega)
  have cv31 := cell_of_heap (o := 1) hv3
  simp at cv31
  have HP3 := hide hP3
  have HQ3 := hide hQ3
  have HLENT3 := hide (hk3.heap (unhide HLENT) (by omega))
  have HV3 := hide hv3
  have HOB3 := hide hob3
  have s23 := hk3.size
  clear hP3 hQ3 hv3 hob3 cv0 cob2 cv3
  go_wp2_with fail
  go_region_held3 (fun w' => w'.cell? ⟨v, 1, none⟩ = some (.pointer (some ⟨r, 0, none⟩)) ∧ w'.cell? ⟨w.heap.size, 2, none⟩ = some (.int .i64 (i : Int))) (first | exact ⟨cv31, cob3⟩ | exact ⟨cv4, cob4⟩) ((go_at_call 191; refine (rWrite_yes (fun k => o k = t + 2 ∧ k < w.heap.size) r m i sp w3.drew (unhide HQ3) (unhide HOK) hi h64 hN).mono ?_; rintro e w4 ⟨rfl, hQ4, hk4'⟩; have hk4 := hk4'.undrew; clear hk4'; have cv4 := cell_of_heap (o := 1) (hk4.heap (unhide HV3) (by have := (unhide HS2).ot; omega)); have cob4 := cell_of_heap (o := 2) (hk4.heap (unhide HOB3) (by omega)); simp at cv4 cob4))
  have HQ4 := hide hQ4
  have hwb := wholeBytes_any sp w1.heap.size w4 (by omega) (hk4.heap (unhide HLENT3) (by omega))
  rw [h64] at hwb
  have HWB := hide hwb
  clear hQ4 hwb
  go_wp2_with fail
  refine (unhide HWB).mono ?_
  rintro e w5 ⟨rfl, hk5⟩
  go_wp2
  go_ret
  rw [unhide HSP]
  exact ⟨rfl, write_end (unhide HS2) rfl (DM.put_ok (unhide HOK) hi h64) s01 s12 (unhide HP3) hk3 (unhide HQ4) hk4 hk5⟩

theorem sectorOf_size (c : Int) (s : ByteArray) (h : s.size ≤ 140737488351232) : (sectorOf c s).size ≤ 140737488351232 := by
  unfold sectorOf
  split
  · rw [pad64_size]; omega
  · exact h

set_option maxRecDepth 100000 in
set_option maxHeartbeats 1600000 in
theorem plain_write_no (o : Nat → Nat) (t pw v : Nat) (m : DM) (a b c : Int) (s : ByteArray) (vk vp : Value) (w : World) (hV : Vol o t w v m)
    (hs : s.size ≤ 140737488351232) (hc0 : -9223372036854775808 ≤ c) (hc1 : c ≤ 9223372036854775807) (hb : b < 0 ∨ (m.dur.length : Int) ≤ b ∨ (sectorOf c s).size ≠ 64) :
    Calls Tryz.prog 125 #[.pointer (some ⟨pw, 0, none⟩), .pointer (some ⟨v, 0, none⟩), opv 2 a b c s vk vp] w fun e w' => e = .returned (.bool true) ∧ VStep o t w v m w' := by
  obtain ⟨d, r, dirty, hS0, h1⟩ := vol_start_dirty hV (opc 2 a b c s vk vp)
  have hok := hS0.ok
  have HOK := hide hok
  have c5 := cell_of_heap (o := 5) h1
  have f5 := frozen_of_heap (o := 5) h1
  simp at c5
  have hvl := lt_of_heap h1
  have HS0 := hide hS0
  have hsp := sectorOf_size c s hs
  have HB := hide hb
  clear hV h1 hok hS0 hb
  go_enter Tryz.func125, Tryz.ntmps125
  go_wp2_with fail
  generalize hW0 : (w.setCell ⟨v, 5, none⟩ (.bool true)).alloc (.cells #[.int .i64 2, .int .i64 a, .int .i64 b, .int .i64 c, .string s, vk, vp] 81) = W0 at *
  clear hW0
  refine (sector_any _ _ _ _ _ c s W0 hc0 hc1).mono ?_
  rintro e w1 ⟨rfl, hk1⟩
  have HS1 := hide ((unhide HS0).keep hk1)
  generalize sectorOf c s = sp at *
  have s01 := (unhide HS1).kp.size
  go_wp2_with fail
  refine (lentBytes_any sp w1 (by omega)).mono ?_
  rintro e w2 ⟨rfl, hw2⟩
  have hlk : Keeps (fun _ => False) w1 w2 := by rw [hw2]; exact (Keeps.refl _ _).alloc _
  have hlent : w2.heap[w1.heap.size]? = some (.cells (lentArr sp 8) 5 (0, 0)) := by rw [hw2]; exact heap_alloc_last w1 _
  have HS2 := hide ((unhide HS1).keep hlk)
  have HLENT := hide hlent
  have s12 := lt_of_heap hlent
  clear hw2 hlk hlent
  have cv0 := cell_of_heap (o := 0) (unhide HS2).hv
  have cv1 := cell_of_heap (o := 1) (unhide HS2).hv
  have cob2 := cell_of_heap (o := 2) (unhide HS2).hob
  simp at cv0 cv1 cob2
  go_wp2_with fail
  go_region_held3 (fun w' => w'.cell? ⟨v, 0, none⟩ = some (.pointer (some ⟨d, 0, none⟩)) ∧ w'.cell? ⟨w.heap.size, 2, none⟩ = some (.int .i64 b)) (exact ⟨cv0, cob2⟩) ((go_at_call 190; refine (dWrite_no (fun k => o k = t + 1 ∧ k < w.heap.size) d m b (some ⟨w1.heap.size, 0, none⟩) sp.size (sp.size + 8) w2.drew (unhide HS2).p (unhide HOK) (unhide HB) (by omega)).mono ?_; rintro e w3 ⟨rfl, rfl⟩))
  go_wp2_with fail
  go_region_held3 (fun w' => w'.cell? ⟨v, 1, none⟩ = some (.pointer (some ⟨r, 0, none⟩)) ∧ w'.cell? ⟨w.heap.size, 2, none⟩ = some (.int .i64 b)) (exact ⟨cv1, cob2⟩) ((go_at_call 191; refine (rWrite_no (fun k => o k = t + 2 ∧ k < w.heap.size) r m b sp w2.drew.drew (unhide HS2).q (unhide HOK) (unhide HB) (by omega)).mono ?_; rintro e w3 ⟨rfl, rfl⟩))
  go_wp2_with fail
  refine (wholeBytes_any sp w1.heap.size w2.drew.drew (by omega) (unhide HLENT)).mono ?_
  rintro e w5 ⟨rfl, hk5⟩
  go_wp2
  go_ret
  exact ⟨rfl, write_end (w3 := w2) (w4 := w2) (unhide HS2) rfl (unhide HOK) s01 s12 (Two.mono (unhide HS2).p (fun _ _ q => .inl q)) (Keeps.refl _ _) (Two.mono (unhide HS2).q (fun _ _ q => .inl q)) (Keeps.refl _ _) hk5.undrew.undrew⟩

end Go.Proofs.YthbmmbgkchiajaaGreat
