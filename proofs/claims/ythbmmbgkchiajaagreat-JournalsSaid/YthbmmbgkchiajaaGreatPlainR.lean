
/- A read. -/
import Derived.Test.YthbmmbgkchiajaaGreatCrashed
import Derived.Laws.BytesArg
namespace Go.Proofs.YthbmmbgkchiajaaGreat
open Go.RowKit

/-- What keepsBytes leaves. -/
def KB (T : Nat → Prop) (p nl : Nat) (ao : Option Addr) (vcs vvs vks v4 v5 v6 : Value) (ls : List Value) (w w' : World) : Prop :=
  ∃ wr w3 vb' x1 x2 x3, KRel ao nl (.int .u8 (200 + (ls.length : Int) / 4 % 50)) w nl wr ∧ Keeps (fun _ => False) wr w3 ∧
        NewList wr w3 (.int .u8 (200 + (ls.length : Int) / 4 % 50)) (nl + 1) x1 ∧ NewList wr w3 (.int .u8 (200 + (ls.length : Int) / 4 % 50)) (nl + 2) x2 ∧ NewList wr w3 (.int .u8 (200 + (ls.length : Int) / 4 % 50)) (nl + 3) x3 ∧
        w'.heap[p]? = some (.cells #[vcs, vvs, vks, vb', v4, v5, v6] 79 (0, 0)) ∧
        Own (fun k => (T k ∧ k < w.heap.size) ∨ w3.heap.size ≤ k) w' 138 1 vb' (ls.length + 4) (ls ++ [.slice ao nl nl] ++ [x1] ++ [x2] ++ [x3]) ∧
        Keeps (fun k => k = p ∨ (T k ∧ k < w.heap.size) ∨ w3.heap.size ≤ k) w3 w'

/-- What a read does: new blocks; a list of nl bytes came out, nil or in a new block; it is in the book. -/
def ReadPost (o : Nat → Nat) (pw : Nat) (vcs vvs vks v4 v5 v6 : Value) (ls : List Value) (w w' : World) : Prop :=
  ∃ w1 ao nl, Keeps (fun _ => False) w w1 ∧ nl ≤ 64 ∧ ((nl = 0 ∧ ao = none) ∨ ∃ g cs e, ao = some ⟨g, 0, none⟩ ∧ w.heap.size ≤ g ∧ w1.heap[g]? = some (.cells cs e (0, 0)) ∧ nl ≤ cs.size) ∧ KB (fun k => o k = 3 ∧ k < w.heap.size) pw nl ao vcs vvs vks v4 v5 v6 ls w1 w'

theorem run_nilBytes (W : World) (a : Option Addr) (n c : Nat) : (binOp .eql 138 (.slice a n c) (.slice none 0 0)).run Tryz.prog W = .ok (.bool a.isNone) W := Lib.run_eql_slice_nil W 138 5 a n c 0 0 Tryz.underlying138

set_option maxRecDepth 100000 in
set_option maxHeartbeats 1600000 in
theorem plain_read_ok (o : Nat → Nat) (t pw v : Nat) (m : DM) (a c : Int) (i : Nat) (s : ByteArray) (vk vp : Value) (vcs vvs vks vb v4 v5 v6 : Value) (ls : List Value) (w : World) (hV : Vol o t w v m) (hN : m.puts.length * 72 ≤ 140737488355328) (hi : i < m.dur.length)
    (hp : w.heap[pw]? = some (.cells #[vcs, vvs, vks, vb, v4, v5, v6] 79 (0, 0))) (hop : o pw = 1) (hrow : Own (fun k => o k = 3) w 138 1 vb ls.length ls) (hL : (ls.length + 4) * 24 ≤ 140737488355328) :
    Calls Tryz.prog 125 #[.pointer (some ⟨pw, 0, none⟩), .pointer (some ⟨v, 0, none⟩), opv 3 a i c s vk vp] w fun e w' => e = .returned (.bool true) ∧ ReadPost o pw vcs vvs vks v4 v5 v6 ls w w' := by
  obtain ⟨d, r, dirty, hS0, h1⟩ := vol_start hV (opc 3 a i c s vk vp)
  have HOK := hide hS0.ok
  have HS0 := hide hS0
  have hvl := lt_of_heap h1
  have hpl := lt_of_heap hp
  have HP := hide hp
  have HROW := hide hrow
  clear hV h1 hS0 hp hrow
  go_enter Tryz.func125, Tryz.ntmps125
  go_wp2_with fail
  have hK0 : Keeps (fun _ => False) w (w.alloc (.cells #[.int .i64 3, .int .i64 a, .int .i64 i, .int .i64 c, .string s, vk, vp] 81)) := (Keeps.refl _ _).alloc _
  generalize hW0 : w.alloc (.cells #[.int .i64 3, .int .i64 a, .int .i64 i, .int .i64 c, .string s, vk, vp] 81) = W0 at *
  clear hW0
  have s0 := hK0.size
  have cv0 := cell_of_heap (o := 0) (unhide HS0).hv
  have cob2 := cell_of_heap (o := 2) (unhide HS0).hob
  simp at cv0 cob2
  go_region_held3 (fun w' => w'.cell? ⟨v, 0, none⟩ = some (.pointer (some ⟨d, 0, none⟩)) ∧ w'.cell? ⟨w.heap.size, 2, none⟩ = some (.int .i64 (i : Int))) (first | exact ⟨cv0, cob2⟩ | exact ⟨cv1, cob1⟩) ((go_at_call 184; refine (dRead_yes (fun k => o k = t + 1 ∧ k < w.heap.size) d m i W0.drew (unhide HS0).p (unhide HOK) hi hN).mono ?_; rintro e w1 ⟨g, rfl, hg, hgh, hk1'⟩; have hk1 := hk1'.undrew; clear hk1'; have hv1 := hk1.heap (unhide HS0).hv (fun f => f); have hob1 := hk1.heap (unhide HS0).hob (fun f => f); have cv1 := cell_of_heap (o := 0) hv1; have cv11 := cell_of_heap (o := 1) hv1; have cob1 := cell_of_heap (o := 2) hob1; simp at cv1 cv11 cob1))
  have hkw1 := hK0.trans hk1 (fun _ _ f => f)
  have hg' : W0.heap.size ≤ g := hg
  have HQ1 := hide (Two.keep (unhide HS0).q hk1 (fun _ _ _ f => f) : RDisk (fun k => o k = t + 2 ∧ k < w.heap.size) w1 r m)
  have hsz := DM.read_size (unhide HOK) hi
  have hrg : w1.rangeAt g 0 (bcells (m.read i)) := by
    intro j u hj
    rw [cell_of_heap hgh, Nat.zero_add, List.getElem?_toArray]; exact hj
  have hcv := run_bytesBack w1.drew g 64 (m.read i) hrg
  rw [hsz] at hcv
  have hnil := fun W => run_nilBytes W (some ⟨g, 0, none⟩) 64 64
  have hkb := keepsBytes_walk (fun k => o k = 3 ∧ k < w.heap.size) pw 64 (some ⟨g, 0, none⟩) vcs vvs vks vb v4 v5 v6 ls w1.drew (hkw1.heap (unhide HP) (fun f => f)) (((unhide HROW).mono (T := fun k => o k = 3 ∧ k < w.heap.size) (fun _ l q => ⟨q, l⟩)).keep hkw1.drew (fun _ _ _ f => f)) (by omega) hL (.inr ⟨g, _, _, rfl, hgh, by simp [bcells_length, hsz], by omega, by omega⟩) (by omega)
  have HKB := hide hkb
  have HG := hide (And.intro hg hgh)
  clear hkb hrg hg hgh hv1 hob1 cv0 cob2
  generalize hrd : m.read i = rd at *
  have HRD := hide hrd
  have hrr := rRead_yes (fun k => o k = t + 2 ∧ k < w.heap.size) r m i w1.drew (unhide HQ1) (unhide HOK) hi hN
  rw [hrd] at hrr
  have HRR := hide hrr
  clear hrr hrd
  go_wp2_with fail
  go_region_held3 (fun w' => w'.cell? ⟨v, 1, none⟩ = some (.pointer (some ⟨r, 0, none⟩)) ∧ w'.cell? ⟨w.heap.size, 2, none⟩ = some (.int .i64 (i : Int))) (exact ⟨cv11, cob1⟩) ((go_at_call 193; refine (unhide HRR).mono ?_; rintro e w2 ⟨rfl, rfl⟩))
  go_wp2_with fail
  refine (unhide HKB).mono ?_
  rintro e w5 ⟨rfl, hE⟩
  have HE := hide hE
  clear hE
  go_wp2
  go_ret
  exact ⟨rfl, w1.drew, some ⟨g, 0, none⟩, 64, hkw1.drew, by omega, .inr ⟨g, _, _, rfl, by omega, (unhide HG).2, by simp [bcells_length, hsz]⟩, unhide HE⟩

set_option maxRecDepth 100000 in
set_option maxHeartbeats 1600000 in
theorem plain_read_no (o : Nat → Nat) (t pw v : Nat) (m : DM) (a b c : Int) (s : ByteArray) (vk vp : Value) (vcs vvs vks vb v4 v5 v6 : Value) (ls : List Value) (w : World) (hV : Vol o t w v m) (hb : b < 0 ∨ (m.dur.length : Int) ≤ b)
    (hp : w.heap[pw]? = some (.cells #[vcs, vvs, vks, vb, v4, v5, v6] 79 (0, 0))) (hop : o pw = 1) (hrow : Own (fun k => o k = 3) w 138 1 vb ls.length ls) (hL : (ls.length + 4) * 24 ≤ 140737488355328) :
    Calls Tryz.prog 125 #[.pointer (some ⟨pw, 0, none⟩), .pointer (some ⟨v, 0, none⟩), opv 3 a b c s vk vp] w fun e w' => e = .returned (.bool true) ∧ ReadPost o pw vcs vvs vks v4 v5 v6 ls w w' := by
  obtain ⟨d, r, dirty, hS0, h1⟩ := vol_start hV (opc 3 a b c s vk vp)
  have HOK := hide hS0.ok
  have HS0 := hide hS0
  have hvl := lt_of_heap h1
  have hpl := lt_of_heap hp
  have HP := hide hp
  have HROW := hide hrow
  have HB := hide hb
  clear hV h1 hS0 hp hrow hb
  go_enter Tryz.func125, Tryz.ntmps125
  go_wp2_with fail
  have hK0 : Keeps (fun _ => False) w (w.alloc (.cells #[.int .i64 3, .int .i64 a, .int .i64 b, .int .i64 c, .string s, vk, vp] 81)) := (Keeps.refl _ _).alloc _
  generalize hW0 : w.alloc (.cells #[.int .i64 3, .int .i64 a, .int .i64 b, .int .i64 c, .string s, vk, vp] 81) = W0 at *
  clear hW0
  have s0 := hK0.size
  have cv0 := cell_of_heap (o := 0) (unhide HS0).hv
  have cv1 := cell_of_heap (o := 1) (unhide HS0).hv
  have cob2 := cell_of_heap (o := 2) (unhide HS0).hob
  simp at cv0 cv1 cob2
  have hcv := run_convert_bytes_nil (P := Tryz.prog) (W0.drew.drew) 138 5 Tryz.underlying138 Tryz.underlying5 0 0
  have hnil := fun W => run_nilBytes W none 0 0
  have HKB := hide (keepsBytes_walk (fun k => o k = 3 ∧ k < w.heap.size) pw 0 none vcs vvs vks vb v4 v5 v6 ls W0.drew.drew (hK0.heap (unhide HP) (fun f => f)) (((unhide HROW).mono (T := fun k => o k = 3 ∧ k < w.heap.size) (fun _ l q => ⟨q, l⟩)).keep hK0.drew.drew (fun _ _ _ f => f)) (by omega) hL (.inl ⟨rfl, rfl⟩) (by omega))
  go_region_held3 (fun w' => w'.cell? ⟨v, 0, none⟩ = some (.pointer (some ⟨d, 0, none⟩)) ∧ w'.cell? ⟨w.heap.size, 2, none⟩ = some (.int .i64 b)) (exact ⟨cv0, cob2⟩) ((go_at_call 184; refine (dRead_no (fun k => o k = t + 1 ∧ k < w.heap.size) d m b W0.drew (unhide HS0).p (unhide HOK) (unhide HB)).mono ?_; rintro e w1 ⟨rfl, rfl⟩))
  go_wp2_with fail
  go_region_held3 (fun w' => w'.cell? ⟨v, 1, none⟩ = some (.pointer (some ⟨r, 0, none⟩)) ∧ w'.cell? ⟨w.heap.size, 2, none⟩ = some (.int .i64 b)) (exact ⟨cv1, cob2⟩) ((go_at_call 193; refine (rRead_no (fun k => o k = t + 2 ∧ k < w.heap.size) r m b W0.drew.drew (unhide HS0).q (unhide HOK) (unhide HB)).mono ?_; rintro e w2 ⟨rfl, rfl⟩))
  go_wp2_with fail
  refine (unhide HKB).mono ?_
  rintro e w5 ⟨rfl, hE⟩
  have HE := hide hE
  clear hE
  go_wp2
  go_ret
  exact ⟨rfl, W0.drew.drew, none, 0, hK0.drew.drew, by omega, .inl ⟨rfl, rfl⟩, unhide HE⟩

end Go.Proofs.YthbmmbgkchiajaaGreat
