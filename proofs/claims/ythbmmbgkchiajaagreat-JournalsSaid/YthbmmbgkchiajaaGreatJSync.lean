
/- A journal with its disk; sync, save. -/
import Derived.Test.YthbmmbgkchiajaaGreatJStored
namespace Go.Proofs.YthbmmbgkchiajaaGreat
open Go.RowKit

/-- A journal and its disk: they lie in S, apart from each other. -/
def JD (S : Nat → Prop) (w : World) (pj pd ring per low next dur epoch : Nat) (note : ByteArray) (m : DM) : Prop :=
  ∃ (D J : Nat → Prop) (vn : Value), (∀ k, D k → S k) ∧ (∀ k, J k → S k) ∧ (∀ k, D k → ¬ J k) ∧ PDisk D w pd m ∧ JAt w pj pd ring per low next dur epoch vn ∧ J pj ∧ Bytes (fun k => J k ∧ k ≠ pj) w vn note

theorem JD.mono {S T : Nat → Prop} {w : World} {pj pd ring per low next dur epoch : Nat} {note : ByteArray} {m : DM} (h : JD S w pj pd ring per low next dur epoch note m) (hs : ∀ k, k < w.heap.size → S k → T k) : JD T w pj pd ring per low next dur epoch note m := by
  obtain ⟨D, J, vn, h1, h2, h3, h4, h5, h6, h7⟩ := h
  refine ⟨fun k => D k ∧ k < w.heap.size, fun k => J k ∧ k < w.heap.size, vn, fun k h => hs k h.2 (h1 k h.1), fun k h => hs k h.2 (h2 k h.1), fun k h h' => h3 k h.1 h'.1, Two.mono h4 (fun k l d => ⟨d, l⟩), h5, ⟨h6, h5.lt⟩, h7.mono (fun k l d => ⟨⟨d.1, l⟩, d.2⟩)⟩
theorem JD.keep {S T : Nat → Prop} {w w' : World} {pj pd ring per low next dur epoch : Nat} {note : ByteArray} {m : DM} (h : JD S w pj pd ring per low next dur epoch note m) (hk : Keeps T w w') (hd : ∀ k, k < w.heap.size → S k → ¬ T k) : JD S w' pj pd ring per low next dur epoch note m := by
  obtain ⟨D, J, vn, h1, h2, h3, h4, h5, h6, h7⟩ := h
  exact ⟨D, J, vn, h1, h2, h3, Two.keep h4 hk (fun k l d => hd k l (h1 k d)), h5.keep hk (hd pj h5.lt (h2 pj h6)), h6, h7.keep hk (fun k l d => hd k l (h2 k d.1))⟩
theorem JD.at {S : Nat → Prop} {w : World} {pj pd ring per low next dur epoch : Nat} {note : ByteArray} {m : DM} (h : JD S w pj pd ring per low next dur epoch note m) : ∃ vn, JAt w pj pd ring per low next dur epoch vn ∧ Bytes S w vn note := by
  obtain ⟨D, J, vn, h1, h2, h3, h4, h5, h6, h7⟩ := h
  exact ⟨vn, h5, h7.mono (fun k _ d => h2 k d.1)⟩
theorem JD.disk {S : Nat → Prop} {w : World} {pj pd ring per low next dur epoch : Nat} {note : ByteArray} {m : DM} (h : JD S w pj pd ring per low next dur epoch note m) : PDisk S w pd m := by
  obtain ⟨D, J, vn, h1, h2, h3, h4, h5, h6, h7⟩ := h
  exact Two.mono h4 (fun k _ d => h1 k d)
theorem JD.own {S : Nat → Prop} {w : World} {pj pd ring per low next dur epoch : Nat} {note : ByteArray} {m : DM} (h : JD S w pj pd ring per low next dur epoch note m) : S pj ∧ pj < w.heap.size := by
  obtain ⟨D, J, vn, h1, h2, h3, h4, h5, h6, h7⟩ := h
  exact ⟨h2 pj h6, h5.lt⟩

/-- A store into the struct of a journal: 4 next, 5 durable. -/
theorem JD.setNext {S : Nat → Prop} {w : World} {pj pd ring per low next dur epoch : Nat} {note : ByteArray} {m : DM} (h : JD S w pj pd ring per low next dur epoch note m) (x : Nat) : JD S (w.setCell ⟨pj, 4, none⟩ (.int .i64 (x : Int))) pj pd ring per low x dur epoch note m := by
  obtain ⟨D, J, vn, h1, h2, h3, h4, h5, h6, h7⟩ := h
  have hk : Keeps (fun k => k = pj) w (w.setCell ⟨pj, 4, none⟩ (.int .i64 (x : Int))) := (Keeps.refl (fun k => k = pj) w).setCell (p := ⟨pj, 4, none⟩) (.inl rfl) _
  exact ⟨D, J, vn, h1, h2, h3, Two.keep h4 hk (fun k l d e => h3 k d (by rw [e]; exact h6)), heap_setCell_same h5 _, h6, h7.keep hk (fun k l d e => d.2 e)⟩
theorem JD.setDur {S : Nat → Prop} {w : World} {pj pd ring per low next dur epoch : Nat} {note : ByteArray} {m : DM} (h : JD S w pj pd ring per low next dur epoch note m) (x : Nat) : JD S (w.setCell ⟨pj, 5, none⟩ (.int .i64 (x : Int))) pj pd ring per low next x epoch note m := by
  obtain ⟨D, J, vn, h1, h2, h3, h4, h5, h6, h7⟩ := h
  have hk : Keeps (fun k => k = pj) w (w.setCell ⟨pj, 5, none⟩ (.int .i64 (x : Int))) := (Keeps.refl (fun k => k = pj) w).setCell (p := ⟨pj, 5, none⟩) (.inl rfl) _
  exact ⟨D, J, vn, h1, h2, h3, Two.keep h4 hk (fun k l d e => h3 k d (by rw [e]; exact h6)), heap_setCell_same h5 _, h6, h7.keep hk (fun k l d e => d.2 e)⟩
theorem JD.setLow {S : Nat → Prop} {w : World} {pj pd ring per low next dur epoch : Nat} {note : ByteArray} {m : DM} (h : JD S w pj pd ring per low next dur epoch note m) (x : Nat) : JD S (w.setCell ⟨pj, 3, none⟩ (.int .i64 (x : Int))) pj pd ring per x next dur epoch note m := by
  obtain ⟨D, J, vn, h1, h2, h3, h4, h5, h6, h7⟩ := h
  have hk : Keeps (fun k => k = pj) w (w.setCell ⟨pj, 3, none⟩ (.int .i64 (x : Int))) := (Keeps.refl (fun k => k = pj) w).setCell (p := ⟨pj, 3, none⟩) (.inl rfl) _
  exact ⟨D, J, vn, h1, h2, h3, Two.keep h4 hk (fun k l d e => h3 k d (by rw [e]; exact h6)), heap_setCell_same h5 _, h6, h7.keep hk (fun k l d e => d.2 e)⟩
/-- A new note, in blocks of its own (those from B on). -/
theorem JD.setNote {S : Nat → Prop} {w w1 : World} {pj pd ring per low next dur epoch : Nat} {note note' : ByteArray} {m : DM} (h : JD S w pj pd ring per low next dur epoch note m) (hk1 : Keeps (fun _ => False) w w1) {v : Value} (hv : Bytes (fun k => w.heap.size ≤ k) w1 v note') :
    JD (fun k => S k ∨ w.heap.size ≤ k) (w1.setCell ⟨pj, 7, none⟩ v) pj pd ring per low next dur epoch note' m := by
  obtain ⟨D, J, vn, h1, h2, h3, h4, h5, h6, h7⟩ := h
  have hl := h5.lt
  have hk : Keeps (fun k => k = pj) w1 (w1.setCell ⟨pj, 7, none⟩ v) := (Keeps.refl (fun k => k = pj) w1).setCell (p := ⟨pj, 7, none⟩) (.inl rfl) _
  have hk2 : Keeps (fun k => k = pj) w (w1.setCell ⟨pj, 7, none⟩ v) := (hk1.mono (T := fun k => k = pj) (fun _ _ f => f.elim)).trans hk (fun _ _ e => e)
  have h5' : JAt w1 pj pd ring per low next dur epoch vn := h5.keep hk1 (fun f => f)
  refine ⟨fun k => D k ∧ k < w.heap.size, fun k => k = pj ∨ w.heap.size ≤ k, v, fun k d => .inl (h1 k d.1), ?_, ?_, ?_, heap_setCell_same h5' _, .inl rfl, ?_⟩
  · intro k hk
    rcases hk with hk | hk
    · subst hk; exact .inl (h2 _ h6)
    · exact .inr hk
  · intro k d e
    rcases e with e | e
    · subst e; exact h3 _ d.1 h6
    · omega
  · exact Two.keep (Two.mono h4 (fun k l d => ⟨d, l⟩)) hk2 (fun k l d e => h3 k d.1 (by rw [e]; exact h6))
  · exact (hv.keep hk (fun k l d e => by omega)).mono (fun k l d => ⟨.inr d, by omega⟩)

set_option maxRecDepth 100000 in
set_option maxHeartbeats 400000 in
theorem jsync_any (S : Nat → Prop) (pj pd ring per low next dur epoch : Nat) (note : ByteArray) (m : DM) (w : World) (hJ : JD S w pj pd ring per low next dur epoch note m) (hm : m.ok) (hN : m.puts.length * 72 ≤ 140737488355328) (hy : m.syncs < 9223372036854775807) (hn : 1 ≤ next) (hn' : next < 9223372036854775807) :
    Calls Tryz.prog 259 #[.pointer (some ⟨pj, 0, none⟩)] w fun e w' => e = .returned (.tuple #[]) ∧ JD S w' pj pd ring per low next (next - 1) epoch note m.sync ∧ Keeps S w w' := by
  obtain ⟨D, J, vn, h1, h2, h3, h4, h5, h6, h7⟩ := hJ
  obtain ⟨c0, _⟩ := h5.cells
  rename_i hx; clear hx
  have HM := hide hm
  have HH := hide h5
  have HDD := hide h4
  have HB := hide h7
  have H6 := hide h6
  clear hm h5 h4 h7 h6
  go_enter Tryz.func259, Tryz.ntmps259
  go_wp2_with fail
  go_at_call 195
  refine (dSync_any D pd m w (unhide HDD) (unhide HM) hN hy).mono ?_
  rintro e w1 ⟨rfl, hd1, hk1⟩
  have h51 := (unhide HH).keep hk1 (fun d => h3 _ d (unhide H6))
  obtain ⟨c0', c1', c2', c3', c4', c5', c6', c7'⟩ := h51.cells
  have hf5 := h51.frozen 5
  have HJD : Hid (JD S w1 pj pd ring per low next dur epoch note m.sync) := hide ⟨D, J, vn, h1, h2, h3, hd1, h51, unhide H6, (unhide HB).keep hk1 (fun k _ d e => h3 k e d.1)⟩
  have HK := hide (hk1.mono (T := S) (fun k _ d => h1 k d))
  clear h51 hd1 hk1
  go_wp2
  go_end0
  refine ⟨rfl, ?_, (unhide HK).setCell (p := ⟨pj, 5, none⟩) (.inl (h2 _ (unhide H6))) _⟩
  have e : (next : Int) - 1 = ((next - 1 : Nat) : Int) := by omega
  rw [e]
  exact (unhide HJD).setDur (next - 1)

set_option maxRecDepth 100000 in
set_option maxHeartbeats 400000 in
theorem save_any (S : Nat → Prop) (pj pd ring per low next dur epoch : Nat) (note : ByteArray) (m : DM) (w : World) (hJ : JD S w pj pd ring per low next dur epoch note m) (hm : m.ok) (hN : (m.puts.length + 1) * 72 ≤ 140737488355328) (hy : m.syncs < 9223372036854775807) (hn : 1 ≤ next) (hn' : next < 9223372036854775807)
    (h2d : 2 ≤ m.dur.length) (hlow : low < 4611686018427387904) (hep : epoch < 4611686018427387904) (hnote : note.size ≤ 40) :
    Calls Tryz.prog 262 #[.pointer (some ⟨pj, 0, none⟩)] w fun e w' => e = .returned (.tuple #[]) ∧ JD (fun k => S k ∨ w.heap.size ≤ k) w' pj pd ring per low next (next - 1) epoch note ((m.put 1 (packB low epoch note)).sync) ∧ Keeps S w w' := by
  obtain ⟨D, J, vn, h1, h2, h3, h4, h5, h6, h7⟩ := hJ
  obtain ⟨c0, c1, c2, c3, c4, c5, c6, c7⟩ := h5.cells
  have hpl := h5.lt
  have HM := hide hm
  have HH := hide h5
  have HDD := hide (Two.mono (T := fun k => D k ∧ k < w.heap.size) h4 (fun k l d => ⟨d, l⟩) : PDisk (fun k => D k ∧ k < w.heap.size) w pd m)
  have HB := hide h7
  have H6 := hide h6
  have hs64 : (packB low epoch note).size = 64 := packB_size _ _ _ (by omega)
  have HS := hide hs64
  clear hm h5 h4 h7 h6 hs64
  go_enter Tryz.func262, Tryz.ntmps262
  go_wp2
  go_region_held3 (fun w' => w'.cell? ⟨pj, 0, none⟩ = some (.pointer (some ⟨pd, 0, none⟩)) ∧ w'.cell? ⟨pj, 3, none⟩ = some (.int .i64 (low : Int)) ∧ w'.cell? ⟨pj, 6, none⟩ = some (.int .i64 (epoch : Int)) ∧ w'.cell? ⟨pj, 7, none⟩ = some vn) (first | exact ⟨c0, c3, c6, c7⟩ | exact ⟨d0, d3, d6, d7⟩ | exact ⟨e0, e3, e6, e7⟩) (first
    | (go_at_call 258
       refine (pack_any (fun k => J k ∧ k ≠ pj) low epoch vn note w.drew (by omega) (by omega) hnote (unhide HB)).mono ?_
       rintro e w1 ⟨rfl, hg, hk⟩
       have hk1 : Keeps (fun _ => False) w w1 := ⟨hk.os, hk.tape, hk.output, hk.size, hk.block⟩
       have HG := hide hg
       have HK1 := hide hk1
       have HH1 := hide ((unhide HH).keep hk1 (fun f => f))
       obtain ⟨d0, d1, d2, d3, d4, d5, d6, d7⟩ := (unhide HH1).cells
       have HD1 := hide (Two.keep (unhide HDD) hk1 (fun _ _ _ f => f))
       have HB1 := hide ((unhide HB).keep hk1 (fun _ _ _ f => f))
       have hs1 := hk1.size
       clear hg hk hk1)
    | (go_at_call 190
       refine (dWrite_yes (fun k => D k ∧ k < w.heap.size) pd m 1 w.heap.size 64 (packB low epoch note) w1 (unhide HD1) (unhide HM) (by omega) (unhide HS) hN (by have hg := unhide HG; intro j u hj; rw [Nat.zero_add]; exact (cell_of_heap hg).trans (by simpa using hj)) (lt_of_heap (unhide HG)) (fun h => by omega) (by omega)).mono ?_
       rintro e w2 ⟨rfl, hd2, hk2⟩
       have h52 := (unhide HH1).keep hk2 (fun d => h3 _ d.1 (unhide H6))
       obtain ⟨e0, e1, e2, e3, e4, e5, e6, e7⟩ := h52.cells
       have HJD : Hid (JD (fun k => S k ∨ w.heap.size ≤ k) w2 pj pd ring per low next dur epoch note (m.put 1 (packB low epoch note))) := hide ⟨fun k => (D k ∧ k < w.heap.size) ∨ w1.heap.size ≤ k, fun k => J k ∧ k < w.heap.size, vn, (fun k d => by rcases d with d | d; (exact .inl (h1 k d.1)); (exact .inr (by omega))), (fun k d => .inl (h2 k d.1)), (fun k d d' => by rcases d with d | d; (exact h3 k d.1 d'.1); omega), hd2, h52, ⟨unhide H6, hpl⟩, ((unhide HB).mono (fun k l d => ⟨⟨d.1, l⟩, d.2⟩)).keep ((unhide HK1).mono (T := fun k => D k ∧ k < w.heap.size) (fun _ _ f => f.elim) |>.trans hk2 (fun _ _ d => d)) (fun k _ d d' => h3 k d'.1 d.1.1)⟩
       have HK2 := hide (((unhide HK1).mono (T := S) (fun _ _ f => f.elim)).trans hk2 (fun k _ d => h1 k d.1))
       clear h52 hd2 hk2))
  go_wp2_with fail
  go_at_call 259
  refine (jsync_any _ pj pd ring per low next dur epoch note _ w2 (unhide HJD) (DM.put_ok (unhide HM) (by omega) (unhide HS)) (by simpa [DM.put] using hN) (by simpa [DM.put] using hy) hn hn').mono ?_
  rintro e w3 ⟨rfl, hj3, hk3⟩
  have HJ3 := hide hj3
  have HK3 := hide hk3
  clear hj3 hk3
  go_wp2
  go_end0
  refine ⟨rfl, unhide HJ3, (unhide HK2).trans (unhide HK3) (fun k hk h => ?_)⟩
  rcases h with h | h
  · exact h
  · omega

end Go.Proofs.YthbmmbgkchiajaaGreat
