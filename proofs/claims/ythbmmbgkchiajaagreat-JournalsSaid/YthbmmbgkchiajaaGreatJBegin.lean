
/- begin: all sectors without a record are wiped. -/
import Derived.Test.YthbmmbgkchiajaaGreatJSync
namespace Go.Proofs.YthbmmbgkchiajaaGreat
open Go.RowKit

theorem blank_cells : bcells blankB = List.replicate 64 (Value.int .u8 0) := by
  have e : ∀ i, byteCell 0 i = .int .u8 0 := fun i => by unfold byteCell; rw [Nat.zero_div]; rfl
  rw [blankB, bcells_pack 0 0 ByteArray.empty (by simp)]
  have e2 : (List.range 8).map (byteCell 0) = List.replicate 8 (.int .u8 0) := by
    rw [List.eq_replicate_iff]
    exact ⟨by simp, fun b hb => by obtain ⟨i, _, rfl⟩ := List.mem_map.1 hb; exact e i⟩
  rw [e2]
  have e3 : bcells ByteArray.empty = [] := rfl
  have e4 : (ByteArray.empty.size : Int) = 0 := rfl
  have e5 : 47 - ByteArray.empty.size = 47 := rfl
  rw [e3, e4, e5]
  show List.replicate 8 _ ++ List.replicate 8 _ ++ List.replicate 1 (Value.int .u8 0) ++ List.replicate 47 _ = _
  rw [List.replicate_append_replicate, List.replicate_append_replicate, List.replicate_append_replicate]
theorem blank_row : (bcells blankB).toArray = zrow := by rw [blank_cells]; unfold zrow; exact List.toArray_replicate 64 _
theorem blank_size : blankB.size = 64 := packB_size _ _ _ (by simp)

/-- Behind k writes. -/
def BegRel (S : Nat → Prop) (w : World) (pj pd ring per low next dur epoch : Nat) (note : ByteArray) (m : DM) (k : Nat) (wr : World) : Prop :=
  JD (fun x => (S x ∧ x < w.heap.size) ∨ w.heap.size < x) wr pj pd ring per low next dur epoch note (m.puts' (frees ring per next k) blankB) ∧ wr.heap[w.heap.size]? = some (.cells zrow 5 (0, 0)) ∧ Keeps S w wr

theorem frees_lt (ring per next k : Nat) (h : 0 < ring * per) : ∀ i ∈ frees ring per next k, i < ring * per + 2 := by
  intro i hi
  obtain ⟨x, _, rfl⟩ := List.mem_map.1 hi
  exact slot_lt _ _ _ h
theorem frees_len (ring per next k : Nat) : (frees ring per next k).length = k := by simp [frees]

theorem BegRel.step {S : Nat → Prop} {w w1 w2 : World} {pj pd ring per low next dur epoch k : Nat} {note : ByteArray} {m : DM} {D J : Nat → Prop} {vn : Value} {wr : World}
    (h1 : ∀ k, D k → (S k ∧ k < w.heap.size) ∨ w.heap.size < k) (h2 : ∀ k, J k → (S k ∧ k < w.heap.size) ∨ w.heap.size < k) (h3 : ∀ k, D k → ¬ J k) (h5 : JAt wr pj pd ring per low next dur epoch vn) (h6 : J pj) (h7 : Bytes (fun k => J k ∧ k ≠ pj) wr vn note)
    (hg : wr.heap[w.heap.size]? = some (.cells zrow 5 (0, 0))) (hk : Keeps S w wr) (hk1 : Keeps (fun _ => False) wr w1) (hd2 : PDisk (fun k => (D k ∧ k < wr.heap.size) ∨ w1.heap.size ≤ k) w2 pd ((m.puts' (frees ring per next k) blankB).put (slot ring per (next + k)) blankB)) (hk2 : Keeps (fun k => D k ∧ k < wr.heap.size) w1 w2) :
    BegRel S w pj pd ring per low next dur epoch note m (k + 1) w2 := by
  have hl := h5.lt
  have hgl := lt_of_heap hg
  have s1 := hk1.size
  have hk12 : Keeps (fun k => D k ∧ k < wr.heap.size) wr w2 := (hk1.mono (T := fun k => D k ∧ k < wr.heap.size) (fun _ _ f => f.elim)).trans hk2 (fun _ _ d => d)
  refine ⟨⟨fun k => (D k ∧ k < wr.heap.size) ∨ w1.heap.size ≤ k, fun k => J k ∧ k < wr.heap.size, vn, ?_, fun k d => h2 k d.1, ?_, ?_, h5.keep hk12 (fun d => h3 _ d.1 h6), ⟨h6, hl⟩, ?_⟩, ?_, ?_⟩
  · intro k d
    rcases d with d | d
    · exact h1 k d.1
    · exact .inr (by omega)
  · intro k d d'
    rcases d with d | d
    · exact h3 k d.1 d'.1
    · omega
  · rw [frees_succ, DM.puts'_snoc]; exact hd2
  · exact (h7.mono (fun k l d => ⟨⟨d.1, l⟩, d.2⟩)).keep hk12 (fun k _ d d' => h3 k d'.1 d.1.1)
  · refine hk12.heap hg (fun d => ?_)
    rcases h1 _ d.1 with h | h
    · omega
    · omega
  · refine hk.trans hk12 (fun i hi d => ?_)
    rcases h1 _ d.1 with h | h
    · exact h.1
    · omega

theorem BegRel.drewN {S : Nat → Prop} {w : World} {pj pd ring per low next dur epoch k : Nat} {note : ByteArray} {m : DM} {wr : World} (h : BegRel S w pj pd ring per low next dur epoch note m k wr) (n : Nat) : BegRel S w pj pd ring per low next dur epoch note m k (wr.drewN n) :=
  ⟨h.1.keep (Keeps.drewN' (S := fun _ => False) wr n) (fun _ _ _ f => f), h.2.1, h.2.2.drewN n⟩

/-- A write of blank bytes. -/
theorem write_blank (D : Nat → Prop) (pd gb q : Nat) (M : DM) (w1 : World) (hD : PDisk D w1 pd M) (hM : M.ok) (hq : q < M.dur.length) (hN : (M.puts.length + 1) * 72 ≤ 140737488355328) (hg : w1.heap[gb]? = some (.cells zrow 5 (0, 0))) (hn : ¬ D gb) :
    Calls Tryz.prog 190 #[.pointer (some ⟨pd, 0, none⟩), .int .i64 (q : Int), .slice (some ⟨gb, 0, none⟩) 64 64] w1 fun e w' => e = .returned (.int .i64 0) ∧ PDisk (fun k => D k ∨ w1.heap.size ≤ k) w' pd (M.put q blankB) ∧ Keeps D w1 w' :=
  dWrite_yes D pd M q gb 64 blankB w1 hD hM hq blank_size hN (by intro j u hj; rw [Nat.zero_add]; refine (cell_of_heap hg).trans ?_; rw [← blank_row]; simpa using hj) (lt_of_heap hg) hn (by omega)

attribute [local go_sem ↓] mulI_eq

set_option maxRecDepth 100000 in
set_option maxHeartbeats 800000 in
theorem begin_any (S : Nat → Prop) (pj pd ring per low next dur epoch : Nat) (note : ByteArray) (m : DM) (w : World) (hJ : JD S w pj pd ring per low next dur epoch note m) (hm : m.ok) (hN : (m.puts.length + 100) * 72 ≤ 140737488355328) (hy : m.syncs < 9223372036854775807)
    (hC : 1 ≤ ring * per ∧ ring * per ≤ 96) (hroom : ring * per + 2 ≤ m.dur.length) (hn : 1 ≤ next) (hn' : next < 4611686018427387904) (hlow : low ≤ next) (hspan : next ≤ low + ring * per) (hep : epoch < 4611686018427387904) (hnote : note.size ≤ 40) :
    Calls Tryz.prog 221 #[.pointer (some ⟨pj, 0, none⟩)] w fun e w' => e = .returned (.tuple #[]) ∧ JD (fun k => S k ∨ w.heap.size ≤ k) w' pj pd ring per low next (next - 1) epoch note (((m.puts' (frees ring per next (ring * per - (next - low))) blankB).put 1 (packB low epoch note)).sync) ∧ Keeps S w w' := by
  have hmk := run_make64
  have hkA : Keeps (fun _ => False) w (w.alloc (.cells zrow 5)) := (Keeps.refl _ _).alloc _
  have hR0 : BegRel S w pj pd ring per low next dur epoch note m 0 (w.alloc (.cells zrow 5)) := ⟨(JD.keep (hJ.mono (T := fun x => S x ∧ x < w.heap.size) (fun k l s => ⟨s, l⟩)) hkA (fun _ _ _ f => f)).mono (fun k l s => .inl s), heap_alloc_last w _, hkA.mono (fun _ _ f => f.elim)⟩
  obtain ⟨vn, hat, _⟩ := hR0.1.at
  rename_i hx; clear hx
  obtain ⟨c0, c1, c2, c3, c4, c5, c6, c7⟩ := hat.cells
  have HR0 := hide hR0
  have HM := hide hm
  obtain ⟨C, HQ⟩ : ∃ q : Nat, Hid (q = ring * per) := ⟨_, hide rfl⟩
  have hmul := fun W => run_mulI W ring per (by omega)
  rw [← unhide HQ] at hmul hC hroom hspan
  have hpl : pj < w.heap.size := hJ.own.2
  clear hJ hm hkA hR0 hat
  generalize hW : w.alloc (.cells zrow 5) = W0 at *
  go_enter Tryz.func221, Tryz.ntmps221
  go_wp2
  go_quiet (fail)
  clear c0 c1 c2 c3 c4 c5 c6 c7
  go_wp2
  go_loopw [26] (fun i wr => ∃ k : Nat, (k : Int) ≤ (C : Int) - ((next : Int) - (low : Int)) ∧ i = .int .i64 k ∧ Hid (BegRel S w pj pd ring per low next dur epoch note m k wr)) (fun i _ => C - (next - low) - (intOf i).toNat)
  case atStart =>
    exact ⟨0, by omega, rfl, hide ((unhide HR0).drewN _)⟩
  case round =>
    obtain ⟨k, hk, rfl, HR⟩ := hrel
    by_cases hlt : (k : Int) < (C : Int) - ((next : Int) - (low : Int))
    · obtain ⟨hJ, hg, hK⟩ := unhide HR
      obtain ⟨D, J, vn', h1, h2, h3, h4, h5, h6, h7⟩ := hJ
      obtain ⟨c0, c1, c2, c3, c4, c5, c6, c7⟩ := h5.cells
      have hpl2 := h5.lt
      have HDD := hide (Two.mono (T := fun k => D k ∧ k < wr.heap.size) h4 (fun k l d => ⟨d, l⟩) : PDisk (fun k => D k ∧ k < wr.heap.size) wr pd (m.puts' (frees ring per next k) blankB))
      have hsl : slot ring per (next + k) < m.dur.length := by have := slot_lt ring per (next + k) (by rw [← unhide HQ]; omega); rw [← unhide HQ] at this; omega
      have hok : (m.puts' (frees ring per next k) blankB).ok := DM.puts'_ok blank_size _ (unhide HM) (fun i hi => by have := frees_lt ring per next k (by rw [← unhide HQ]; omega) i hi; rw [← unhide HQ] at this; omega)
      have hmn : ((m.puts' (frees ring per next k) blankB).puts.length + 1) * 72 ≤ 140737488355328 := by rw [DM.puts'_len, frees_len]; exact Nat.le_trans (Nat.mul_le_mul_right 72 (by omega)) hN
      have hsl' : slot ring per (next + k) < (m.puts' (frees ring per next k) blankB).dur.length := by rw [DM.puts'_dur]; exact hsl
      have HSL := hide hsl'
      have HMOK := hide hok
      have HMN := hide hmn
      clear hok hmn hsl'
      have HSec : Hid (∀ W : World, W.cell? ⟨pj, 1, none⟩ = some (.int .i64 (ring : Int)) → W.cell? ⟨pj, 2, none⟩ = some (.int .i64 (per : Int)) → Calls Tryz.prog 257 #[.pointer (some ⟨pj, 0, none⟩), .int .i64 ((next : Int) + (k : Int))] W fun e w' => e = .returned (.int .i64 ((slot ring per (next + k) : Nat) : Int)) ∧ Keeps (fun _ => False) W w') := hide fun W h1 h2 => by
        have := jsector_any pj ring per (next + k) W h1 h2 (by rw [← unhide HQ]; exact hC) (by omega) (by omega)
        exact this
      have HH := hide (show (∀ k, D k → (S k ∧ k < w.heap.size) ∨ w.heap.size < k) ∧ (∀ k, J k → (S k ∧ k < w.heap.size) ∨ w.heap.size < k) ∧ (∀ k, D k → ¬ J k) ∧ JAt wr pj pd ring per low next dur epoch vn' ∧ J pj ∧ Bytes (fun k => J k ∧ k ≠ pj) wr vn' note ∧ wr.heap[w.heap.size]? = some (.cells zrow 5 (0, 0)) ∧ Keeps S w wr from ⟨h1, h2, h3, h5, h6, h7, hg, hK⟩)
      have HG := hide hg
      have hND : ∀ k, D k → k ≠ w.heap.size := fun k d e => by rcases h1 k d with h | h <;> omega
      have HND := hide hND
      have hpj : ¬ D pj := fun d => h3 _ d h6
      clear h1 h2 h3 h4 h5 h6 h7 hg hK hsl hND
      have HWR : Hid (IntKind.i64.wrap ((next : Int) + (k : Int)) = (next : Int) + (k : Int)) := hide (IntWalk.i64_in _ ⟨by omega, by omega⟩)
      obtain ⟨q, HQS⟩ : ∃ q : Nat, Hid (q = slot ring per (next + k)) := ⟨_, hide rfl⟩
      rw [← unhide HQS] at HSec HSL
      obtain ⟨M, HMM⟩ : ∃ M : DM, Hid (M = m.puts' (frees ring per next k) blankB) := ⟨_, hide rfl⟩
      rw [← unhide HMM] at HSL HMOK HMN HDD
      clear HR
      go_wp2
      go_region_held3 (fun w' => w'.cell? ⟨pj, 0, none⟩ = some (.pointer (some ⟨pd, 0, none⟩)) ∧ w'.cell? ⟨pj, 4, none⟩ = some (.int .i64 (next : Int))) (first | exact ⟨c0, c4⟩ | exact ⟨d0, d4⟩ | exact ⟨e0, e4⟩) (first
        | (go_at_call 257
           rw [unhide HWR]
           refine (unhide HSec wr.drew c1 c2).mono ?_
           rintro e w1 ⟨rfl, hk1⟩
           have hk1' : Keeps (fun _ => False) wr w1 := ⟨hk1.os, hk1.tape, hk1.output, hk1.size, hk1.block⟩
           have d0 : w1.cell? ⟨pj, 0, none⟩ = some (.pointer (some ⟨pd, 0, none⟩)) := (hk1'.cell (p := ⟨pj, 0, none⟩) hpl2 (fun f => f)).trans c0
           have d4 : w1.cell? ⟨pj, 4, none⟩ = some (.int .i64 (next : Int)) := (hk1'.cell (p := ⟨pj, 4, none⟩) hpl2 (fun f => f)).trans c4
           have HD1 := hide (Two.keep (unhide HDD) hk1' (fun _ _ _ f => f))
           have HG1 := hide (hk1'.heap (unhide HG) (fun f => f))
           have HK1 := hide hk1'
           have hs1 := hk1'.size
           clear hk1 hk1')
        | (go_at_call 190
           refine (write_blank (fun k => D k ∧ k < wr.heap.size) pd w.heap.size q M w1 (unhide HD1) (unhide HMOK) (unhide HSL) (unhide HMN) (unhide HG1) (fun h => unhide HND _ h.1 rfl)).mono ?_
           rintro e w2 ⟨rfl, hd2, hk2⟩
           have e0 : w2.cell? ⟨pj, 0, none⟩ = some (.pointer (some ⟨pd, 0, none⟩)) := (hk2.cell (p := ⟨pj, 0, none⟩) (by exact Nat.lt_of_lt_of_le hpl2 hs1) (fun d => hpj d.1)).trans d0
           have e4 : w2.cell? ⟨pj, 4, none⟩ = some (.int .i64 (next : Int)) := (hk2.cell (p := ⟨pj, 4, none⟩) (by exact Nat.lt_of_lt_of_le hpl2 hs1) (fun d => hpj d.1)).trans d4
           have HD2 := hide hd2
           have HK2 := hide hk2
           clear hd2 hk2))
      go_wp2
      go_roundw
      case rel =>
        refine ⟨k + 1, by omega, by go_num, hide ?_⟩
        obtain ⟨h1, h2, h3, h5, h6, h7, hg, hK⟩ := unhide HH
        have := unhide HD2
        rw [unhide HQS, unhide HMM] at this
        exact BegRel.step h1 h2 h3 h5 h6 h7 hg hK (unhide HK1) this (unhide HK2)
      case measure => simp [intOf]; omega
    · obtain ⟨hJ, hg, hK⟩ := unhide HR
      have hkk : k = C - (next - low) := by omega
      have HKK := hide hkk
      have hfr := frees_lt ring per next k (by rw [← unhide HQ]; omega)
      rw [← unhide HQ] at hfr
      have hok : (m.puts' (frees ring per next k) blankB).ok := DM.puts'_ok blank_size _ (unhide HM) (fun i hi => by have := hfr i hi; omega)
      have HJ := hide hJ
      have HOK := hide hok
      have HK := hide hK
      clear hJ hg hK hkk hfr hok
      go_wp2_with fail
      go_at_call 262
      refine (save_any _ pj pd ring per low next dur epoch note _ wr (unhide HJ) (unhide HOK) (by rw [DM.puts'_len, frees_len]; exact Nat.le_trans (Nat.mul_le_mul_right 72 (by omega)) hN) (by rw [DM.puts'_syncs]; exact hy) hn (by omega) (by rw [DM.puts'_dur]; omega) (by omega) hep hnote).mono ?_
      rintro e w3 ⟨rfl, hj3, hk3⟩
      have HJ3 := hide hj3
      have HK3 := hide hk3
      clear hj3 hk3
      go_wp2
      go_end0
      have hJ3 := unhide HJ3
      rw [unhide HKK, unhide HQ] at hJ3
      have s1 := (unhide HK).size
      refine ⟨rfl, hJ3.mono (fun x l h => ?_), (unhide HK).trans (unhide HK3) (fun x hx h => ?_)⟩
      · rcases h with (h | h) | h
        · exact .inl h.1
        · exact .inr (by omega)
        · exact .inr (by omega)
      · rcases h with h | h
        · exact h.1
        · omega

end Go.Proofs.YthbmmbgkchiajaaGreat
