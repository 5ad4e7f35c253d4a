
/- What stands where a record has its place. -/
import Derived.Test.YthbmmbgkchiajaaGreatDSync
import Derived.Deep.LoopGhost
import Derived.WalkMore

namespace Go.Proofs.YthbmmbgkchiajaaGreat
set_option linter.unusedSimpArgs false
set_option linter.unusedVariables false
open Go.RowKit

/-- A journal's struct: block pj; its disk is block pd. -/
def jcells (pd ring per low next dur epoch : Nat) (vn : Value) : Array Value := #[.pointer (some ⟨pd, 0, none⟩), .int .i64 (ring : Int), .int .i64 (per : Int), .int .i64 (low : Int), .int .i64 (next : Int), .int .i64 (dur : Int), .int .i64 (epoch : Int), vn]
def JAt (w : World) (pj pd ring per low next dur epoch : Nat) (vn : Value) : Prop := w.heap[pj]? = some (.cells #[.pointer (some ⟨pd, 0, none⟩), .int .i64 (ring : Int), .int .i64 (per : Int), .int .i64 (low : Int), .int .i64 (next : Int), .int .i64 (dur : Int), .int .i64 (epoch : Int), vn] 282 (0, 0))

theorem JAt.cells {w : World} {pj pd ring per low next dur epoch : Nat} {vn : Value} (h : JAt w pj pd ring per low next dur epoch vn) :
    w.cell? ⟨pj, 0, none⟩ = some (.pointer (some ⟨pd, 0, none⟩)) ∧ w.cell? ⟨pj, 1, none⟩ = some (.int .i64 (ring : Int)) ∧ w.cell? ⟨pj, 2, none⟩ = some (.int .i64 (per : Int)) ∧ w.cell? ⟨pj, 3, none⟩ = some (.int .i64 (low : Int)) ∧
    w.cell? ⟨pj, 4, none⟩ = some (.int .i64 (next : Int)) ∧ w.cell? ⟨pj, 5, none⟩ = some (.int .i64 (dur : Int)) ∧ w.cell? ⟨pj, 6, none⟩ = some (.int .i64 (epoch : Int)) ∧ w.cell? ⟨pj, 7, none⟩ = some vn :=
  ⟨cell_of_heap h, cell_of_heap h, cell_of_heap h, cell_of_heap h, cell_of_heap h, cell_of_heap h, cell_of_heap h, cell_of_heap h⟩
theorem JAt.frozen {w : World} {pj pd ring per low next dur epoch : Nat} {vn : Value} (h : JAt w pj pd ring per low next dur epoch vn) (o : Nat) : w.frozen? ⟨pj, o, none⟩ = false := frozen_of_heap h
theorem JAt.keep {T : Nat → Prop} {w w' : World} {pj pd ring per low next dur epoch : Nat} {vn : Value} (h : JAt w pj pd ring per low next dur epoch vn) (hk : Keeps T w w') (hn : ¬ T pj) : JAt w' pj pd ring per low next dur epoch vn := hk.heap h hn
theorem JAt.lt {w : World} {pj pd ring per low next dur epoch : Nat} {vn : Value} (h : JAt w pj pd ring per low next dur epoch vn) : pj < w.heap.size := lt_of_heap h

theorem Keeps.drewN' {S : Nat → Prop} (w : World) (n : Nat) : Keeps S w (w.drewN n) := (Keeps.refl S w).drewN n

set_option maxRecDepth 100000 in
set_option maxHeartbeats 400000 in
theorem stored_any (S : Nat → Prop) (pj pd ring per low next dur epoch n a b : Nat) (vn : Value) (t : ByteArray) (m : DM) (w : World) (hJ : JAt w pj pd ring per low next dur epoch vn) (hD : PDisk S w pd m) (hm : m.ok) (hN : m.puts.length * 72 ≤ 140737488355328)
    (hC : 1 ≤ ring * per ∧ ring * per ≤ 96) (hroom : ring * per + 2 ≤ m.dur.length) (hn : 1 ≤ n) (hn' : n < 9223372036854775807)
    (hr : m.read (slot ring per n) = packB a b t) (ht : t.size ≤ 40) (ha : a < 4611686018427387904) (hb : b < 4611686018427387904) :
    Calls Tryz.prog 263 #[.pointer (some ⟨pj, 0, none⟩), .int .i64 (n : Int)] w fun e w' => ∃ g, e = .returned (.tuple #[.int .i64 (a : Int), .slice (some ⟨g, 17, none⟩) t.size 47]) ∧ w.heap.size ≤ g ∧ w'.heap[g]? = some (.cells (bcells (packB a b t)).toArray 305 (0, 0)) ∧ Keeps (fun _ => False) w w' := by
  obtain ⟨c0, c1, c2, _⟩ := hJ.cells
  rename_i hx; clear hx
  have HD := hide hD
  have HM := hide hm
  have HS := hide hC
  have hsl : slot ring per n < m.dur.length := by have := slot_lt ring per n (by omega); omega
  have HSL := hide hsl
  have HR := hide hr
  have HSec : Hid (∀ W : World, W.cell? ⟨pj, 1, none⟩ = some (.int .i64 (ring : Int)) → W.cell? ⟨pj, 2, none⟩ = some (.int .i64 (per : Int)) → Calls Tryz.prog 257 #[.pointer (some ⟨pj, 0, none⟩), .int .i64 (n : Int)] W fun e w' => e = .returned (.int .i64 ((slot ring per n : Nat) : Int)) ∧ Keeps (fun _ => False) W w') := hide fun W h1 h2 => jsector_any pj ring per n W h1 h2 hC hn hn'
  have hpl := hJ.lt
  clear hJ hD hm hC hr hsl hroom
  generalize slot ring per n = q at *
  go_enter Tryz.func263, Tryz.ntmps263
  go_wp2
  go_region_held3 (fun w' => w'.cell? ⟨pj, 0, none⟩ = some (.pointer (some ⟨pd, 0, none⟩))) (first | exact c0 | exact c02 | exact c01) (first
    | (go_at_call 257; refine (unhide HSec w.drew c1 c2).mono ?_; rintro e w1 ⟨rfl, hk1⟩; have hk1' : Keeps (fun _ => False) w w1 := ⟨hk1.os, hk1.tape, hk1.output, hk1.size, hk1.block⟩; have c01 : w1.cell? ⟨pj, 0, none⟩ = some (.pointer (some ⟨pd, 0, none⟩)) := (hk1'.cell (p := ⟨pj, 0, none⟩) hpl (fun f => f)).trans c0; have HD1 := hide (Two.keep (unhide HD) hk1' (fun _ _ _ f => f)); have HK1 := hide hk1'; have hs1 := hk1'.size; clear hk1 hk1')
    | (go_at_call 184; refine (dRead_yes S pd m q w1 (unhide HD1) (unhide HM) (unhide HSL) hN).mono ?_; rintro e w2 ⟨g, rfl, hg, hgg, hk⟩; have c02 : w2.cell? ⟨pj, 0, none⟩ = some (.pointer (some ⟨pd, 0, none⟩)) := (hk.cell (p := ⟨pj, 0, none⟩) (by exact Nat.lt_of_lt_of_le hpl hs1) (fun f => f)).trans c01; rw [unhide HR] at hgg; have HG := hide hgg; have HK := hide hk; have HGS : Hid (w.heap.size ≤ g) := hide (Nat.le_trans hs1 hg); clear hgg hk hg))
  go_wp2_with fail
  go_at_call 251
  refine (unpack_any g a b t 305 _ (by omega) (by omega) ht (unhide HG)).mono ?_
  rintro e w3 ⟨rfl, hk3⟩
  have HG3 := hide (hk3.heap (unhide HG) (fun f => f))
  have HK3 := hide hk3
  clear hk3
  go_wp2
  go_ret2
  exact ⟨g, rfl, unhide HGS, unhide HG3, ((unhide HK1).trans (unhide HK) (fun _ _ f => f)).trans (unhide HK3) (fun _ _ f => f)⟩

end Go.Proofs.YthbmmbgkchiajaaGreat

/- A journal with its disk; sync, save. -/
namespace Go.Proofs.YthbmmbgkchiajaaGreat
set_option linter.unusedSimpArgs false
set_option linter.unusedVariables false
open Go.RowKit

/-- A journal and its disk: they lie in S, apart from each other. -/
def JD (S : Nat → Prop) (w : World) (pj pd ring per low next dur epoch : Nat) (note : ByteArray) (m : DM) : Prop :=
  ∃ (D J : Nat → Prop) (vn : Value), (∀ k, D k → S k) ∧ (∀ k, J k → S k) ∧ (∀ k, D k → ¬ J k) ∧ PDisk D w pd m ∧ JAt w pj pd ring per low next dur epoch vn ∧ J pj ∧ Bytes (fun k => J k ∧ k ≠ pj) w vn note

theorem JD.mono {S T : Nat → Prop} {w : World} {pj pd ring per low next dur epoch : Nat} {note : ByteArray} {m : DM} (h : JD S w pj pd ring per low next dur epoch note m) (hs : ∀ k, k < w.heap.size → S k → T k) : JD T w pj pd ring per low next dur epoch note m := by
  obtain ⟨D, J, vn, h1, h2, h3, h4, h5, h6, h7⟩ := h
  refine ⟨fun k => D k ∧ k < w.heap.size, fun k => J k ∧ k < w.heap.size, vn, fun k h => hs k h.2 (h1 k h.1), fun k h => hs k h.2 (h2 k h.1), fun k h h' => h3 k h.1 h'.1, Two.mono h4 (fun k l d => ⟨d, l⟩), h5, ⟨h6, h5.lt⟩, h7.mono (fun k l d => ⟨⟨d.1, l⟩, d.2⟩)⟩
theorem JD.keep {S T : Nat → Prop} {w w' : World} {pj pd ring per low next dur epoch : Nat} {note : ByteArray} {m : DM} (h : JD S w pj pd ring per low next dur epoch note m) (hk : Keeps T w w') (hd : ∀ k, k < w.heap.size → S k → ¬ T k) : JD S w' pj pd ring per low next dur epoch note m := by
  obtain ⟨D, J, vn, h1, h2, h3, h4, h5, h6, h7⟩ := h
  exact ⟨D, J, vn, h1, h2, h3, Two.keep h4 hk (fun k l d => hd k l (h1 k d)), h5.keep hk (hd pj h5.lt (h2 pj h6)), h6, h7.keep hk (fun k l d => hd k l (h2 k d.1))⟩
theorem JD.at {S : Nat → Prop} {w : World} {pj pd ring per low next dur epoch : Nat} {note : ByteArray} {m : DM} (h : JD S w pj pd ring per low next dur epoch note m) : ∃ vn, JAt w pj pd ring per low next dur epoch vn ∧ Bytes S w vn note := by
  obtain ⟨D, J, vn, h1, h2, h3, h4, h5, h6, h7⟩ := h
  exact ⟨vn, h5, h7.mono (fun k _ d => h2 k d.1)⟩
theorem JD.disk {S : Nat → Prop} {w : World} {pj pd ring per low next dur epoch : Nat} {note : ByteArray} {m : DM} (h : JD S w pj pd ring per low next dur epoch note m) : PDisk S w pd m := by
  obtain ⟨D, J, vn, h1, h2, h3, h4, h5, h6, h7⟩ := h
  exact Two.mono h4 (fun k _ d => h1 k d)
theorem JD.own {S : Nat → Prop} {w : World} {pj pd ring per low next dur epoch : Nat} {note : ByteArray} {m : DM} (h : JD S w pj pd ring per low next dur epoch note m) : S pj ∧ pj < w.heap.size := by
  obtain ⟨D, J, vn, h1, h2, h3, h4, h5, h6, h7⟩ := h
  exact ⟨h2 pj h6, h5.lt⟩

/-- A store into the struct of a journal: 4 next, 5 durable. -/
theorem JD.setNext {S : Nat → Prop} {w : World} {pj pd ring per low next dur epoch : Nat} {note : ByteArray} {m : DM} (h : JD S w pj pd ring per low next dur epoch note m) (x : Nat) : JD S (w.setCell ⟨pj, 4, none⟩ (.int .i64 (x : Int))) pj pd ring per low x dur epoch note m := by
  obtain ⟨D, J, vn, h1, h2, h3, h4, h5, h6, h7⟩ := h
  have hk : Keeps (fun k => k = pj) w (w.setCell ⟨pj, 4, none⟩ (.int .i64 (x : Int))) := (Keeps.refl (fun k => k = pj) w).setCell (p := ⟨pj, 4, none⟩) (.inl rfl) _
  exact ⟨D, J, vn, h1, h2, h3, Two.keep h4 hk (fun k l d e => h3 k d (by rw [e]; exact h6)), heap_setCell_same h5 _, h6, h7.keep hk (fun k l d e => d.2 e)⟩
theorem JD.setDur {S : Nat → Prop} {w : World} {pj pd ring per low next dur epoch : Nat} {note : ByteArray} {m : DM} (h : JD S w pj pd ring per low next dur epoch note m) (x : Nat) : JD S (w.setCell ⟨pj, 5, none⟩ (.int .i64 (x : Int))) pj pd ring per low next x epoch note m := by
  obtain ⟨D, J, vn, h1, h2, h3, h4, h5, h6, h7⟩ := h
  have hk : Keeps (fun k => k = pj) w (w.setCell ⟨pj, 5, none⟩ (.int .i64 (x : Int))) := (Keeps.refl (fun k => k = pj) w).setCell (p := ⟨pj, 5, none⟩) (.inl rfl) _
  exact ⟨D, J, vn, h1, h2, h3, Two.keep h4 hk (fun k l d e => h3 k d (by rw [e]; exact h6)), heap_setCell_same h5 _, h6, h7.keep hk (fun k l d e => d.2 e)⟩
theorem JD.setLow {S : Nat → Prop} {w : World} {pj pd ring per low next dur epoch : Nat} {note : ByteArray} {m : DM} (h : JD S w pj pd ring per low next dur epoch note m) (x : Nat) : JD S (w.setCell ⟨pj, 3, none⟩ (.int .i64 (x : Int))) pj pd ring per x next dur epoch note m := by
  obtain ⟨D, J, vn, h1, h2, h3, h4, h5, h6, h7⟩ := h
  have hk : Keeps (fun k => k = pj) w (w.setCell ⟨pj, 3, none⟩ (.int .i64 (x : Int))) := (Keeps.refl (fun k => k = pj) w).setCell (p := ⟨pj, 3, none⟩) (.inl rfl) _
  exact ⟨D, J, vn, h1, h2, h3, Two.keep h4 hk (fun k l d e => h3 k d (by rw [e]; exact h6)), heap_setCell_same h5 _, h6, h7.keep hk (fun k l d e => d.2 e)⟩
/-- A new note, in blocks of its own (those from B on). -/
theorem JD.setNote {S : Nat → Prop} {w w1 : World} {pj pd ring per low next dur epoch : Nat} {note note' : ByteArray} {m : DM} (h : JD S w pj pd ring per low next dur epoch note m) (hk1 : Keeps (fun _ => False) w w1) {v : Value} (hv : Bytes (fun k => w.heap.size ≤ k) w1 v note') :
    JD (fun k => S k ∨ w.heap.size ≤ k) (w1.setCell ⟨pj, 7, none⟩ v) pj pd ring per low next dur epoch note' m := by
  obtain ⟨D, J, vn, h1, h2, h3, h4, h5, h6, h7⟩ := h
  have hl := h5.lt
  have hk : Keeps (fun k => k = pj) w1 (w1.setCell ⟨pj, 7, none⟩ v) := (Keeps.refl (fun k => k = pj) w1).setCell (p := ⟨pj, 7, none⟩) (.inl rfl) _
  have hk2 : Keeps (fun k => k = pj) w (w1.setCell ⟨pj, 7, none⟩ v) := (hk1.mono (T := fun k => k = pj) (fun _ _ f => f.elim)).trans hk (fun _ _ e => e)
  have h5' : JAt w1 pj pd ring per low next dur epoch vn := h5.keep hk1 (fun f => f)
  refine ⟨fun k => D k ∧ k < w.heap.size, fun k => k = pj ∨ w.heap.size ≤ k, v, fun k d => .inl (h1 k d.1), ?_, ?_, ?_, heap_setCell_same h5' _, .inl rfl, ?_⟩
  · intro k hk
    rcases hk with hk | hk
    · subst hk; exact .inl (h2 _ h6)
    · exact .inr hk
  · intro k d e
    rcases e with e | e
    · subst e; exact h3 _ d.1 h6
    · omega
  · exact Two.keep (Two.mono h4 (fun k l d => ⟨d, l⟩)) hk2 (fun k l d e => h3 k d.1 (by rw [e]; exact h6))
  · exact (hv.keep hk (fun k l d e => by omega)).mono (fun k l d => ⟨.inr d, by omega⟩)

set_option maxRecDepth 100000 in
set_option maxHeartbeats 400000 in
theorem jsync_any (S : Nat → Prop) (pj pd ring per low next dur epoch : Nat) (note : ByteArray) (m : DM) (w : World) (hJ : JD S w pj pd ring per low next dur epoch note m) (hm : m.ok) (hN : m.puts.length * 72 ≤ 140737488355328) (hy : m.syncs < 9223372036854775807) (hn : 1 ≤ next) (hn' : next < 9223372036854775807) :
    Calls Tryz.prog 259 #[.pointer (some ⟨pj, 0, none⟩)] w fun e w' => e = .returned (.tuple #[]) ∧ JD S w' pj pd ring per low next (next - 1) epoch note m.sync ∧ Keeps S w w' := by
  obtain ⟨D, J, vn, h1, h2, h3, h4, h5, h6, h7⟩ := hJ
  obtain ⟨c0, _⟩ := h5.cells
  rename_i hx; clear hx
  have HM := hide hm
  have HH := hide h5
  have HDD := hide h4
  have HB := hide h7
  have H6 := hide h6
  clear hm h5 h4 h7 h6
  go_enter Tryz.func259, Tryz.ntmps259
  go_wp2_with fail
  go_at_call 195
  refine (dSync_any D pd m w (unhide HDD) (unhide HM) hN hy).mono ?_
  rintro e w1 ⟨rfl, hd1, hk1⟩
  have h51 := (unhide HH).keep hk1 (fun d => h3 _ d (unhide H6))
  obtain ⟨c0', c1', c2', c3', c4', c5', c6', c7'⟩ := h51.cells
  have hf5 := h51.frozen 5
  have HJD : Hid (JD S w1 pj pd ring per low next dur epoch note m.sync) := hide ⟨D, J, vn, h1, h2, h3, hd1, h51, unhide H6, (unhide HB).keep hk1 (fun k _ d e => h3 k e d.1)⟩
  have HK := hide (hk1.mono (T := S) (fun k _ d => h1 k d))
  clear h51 hd1 hk1
  go_wp2
  go_end0
  refine ⟨rfl, ?_, (unhide HK).setCell (p := ⟨pj, 5, none⟩) (.inl (h2 _ (unhide H6))) _⟩
  have e : (next : Int) - 1 = ((next - 1 : Nat) : Int) := by omega
  rw [e]
  exact (unhide HJD).setDur (next - 1)

set_option maxRecDepth 100000 in
set_option maxHeartbeats 400000 in
theorem save_any (S : Nat → Prop) (pj pd ring per low next dur epoch : Nat) (note : ByteArray) (m : DM) (w : World) (hJ : JD S w pj pd ring per low next dur epoch note m) (hm : m.ok) (hN : (m.puts.length + 1) * 72 ≤ 140737488355328) (hy : m.syncs < 9223372036854775807) (hn : 1 ≤ next) (hn' : next < 9223372036854775807)
    (h2d : 2 ≤ m.dur.length) (hlow : low < 4611686018427387904) (hep : epoch < 4611686018427387904) (hnote : note.size ≤ 40) :
    Calls Tryz.prog 262 #[.pointer (some ⟨pj, 0, none⟩)] w fun e w' => e = .returned (.tuple #[]) ∧ JD (fun k => S k ∨ w.heap.size ≤ k) w' pj pd ring per low next (next - 1) epoch note ((m.put 1 (packB low epoch note)).sync) ∧ Keeps S w w' := by
  obtain ⟨D, J, vn, h1, h2, h3, h4, h5, h6, h7⟩ := hJ
  obtain ⟨c0, c1, c2, c3, c4, c5, c6, c7⟩ := h5.cells
  have hpl := h5.lt
  have HM := hide hm
  have HH := hide h5
  have HDD := hide (Two.mono (T := fun k => D k ∧ k < w.heap.size) h4 (fun k l d => ⟨d, l⟩) : PDisk (fun k => D k ∧ k < w.heap.size) w pd m)
  have HB := hide h7
  have H6 := hide h6
  have hs64 : (packB low epoch note).size = 64 := packB_size _ _ _ (by omega)
  have HS := hide hs64
  clear hm h5 h4 h7 h6 hs64
  go_enter Tryz.func262, Tryz.ntmps262
  go_wp2
  go_region_held3 (fun w' => w'.cell? ⟨pj, 0, none⟩ = some (.pointer (some ⟨pd, 0, none⟩)) ∧ w'.cell? ⟨pj, 3, none⟩ = some (.int .i64 (low : Int)) ∧ w'.cell? ⟨pj, 6, none⟩ = some (.int .i64 (epoch : Int)) ∧ w'.cell? ⟨pj, 7, none⟩ = some vn) (first | exact ⟨c0, c3, c6, c7⟩ | exact ⟨d0, d3, d6, d7⟩ | exact ⟨e0, e3, e6, e7⟩) (first
    | (go_at_call 258
       refine (pack_any (fun k => J k ∧ k ≠ pj) low epoch vn note w.drew (by omega) (by omega) hnote (unhide HB)).mono ?_
       rintro e w1 ⟨rfl, hg, hk⟩
       have hk1 : Keeps (fun _ => False) w w1 := ⟨hk.os, hk.tape, hk.output, hk.size, hk.block⟩
       have HG := hide hg
       have HK1 := hide hk1
       have HH1 := hide ((unhide HH).keep hk1 (fun f => f))
       obtain ⟨d0, d1, d2, d3, d4, d5, d6, d7⟩ := (unhide HH1).cells
       have HD1 := hide (Two.keep (unhide HDD) hk1 (fun _ _ _ f => f))
       have HB1 := hide ((unhide HB).keep hk1 (fun _ _ _ f => f))
       have hs1 := hk1.size
       clear hg hk hk1)
    | (go_at_call 190
       refine (dWrite_yes (fun k => D k ∧ k < w.heap.size) pd m 1 w.heap.size 64 (packB low epoch note) w1 (unhide HD1) (unhide HM) (by omega) (unhide HS) hN (by have hg := unhide HG; intro j u hj; rw [Nat.zero_add]; exact (cell_of_heap hg).trans (by simpa using hj)) (lt_of_heap (unhide HG)) (fun h => by omega) (by omega)).mono ?_
       rintro e w2 ⟨rfl, hd2, hk2⟩
       have h52 := (unhide HH1).keep hk2 (fun d => h3 _ d.1 (unhide H6))
       obtain ⟨e0, e1, e2, e3, e4, e5, e6, e7⟩ := h52.cells
       have HJD : Hid (JD (fun k => S k ∨ w.heap.size ≤ k) w2 pj pd ring per low next dur epoch note (m.put 1 (packB low epoch note))) := hide ⟨fun k => (D k ∧ k < w.heap.size) ∨ w1.heap.size ≤ k, fun k => J k ∧ k < w.heap.size, vn, (fun k d => by rcases d with d | d; (exact .inl (h1 k d.1)); (exact .inr (by omega))), (fun k d => .inl (h2 k d.1)), (fun k d d' => by rcases d with d | d; (exact h3 k d.1 d'.1); omega), hd2, h52, ⟨unhide H6, hpl⟩, ((unhide HB).mono (fun k l d => ⟨⟨d.1, l⟩, d.2⟩)).keep ((unhide HK1).mono (T := fun k => D k ∧ k < w.heap.size) (fun _ _ f => f.elim) |>.trans hk2 (fun _ _ d => d)) (fun k _ d d' => h3 k d'.1 d.1.1)⟩
       have HK2 := hide (((unhide HK1).mono (T := S) (fun _ _ f => f.elim)).trans hk2 (fun k _ d => h1 k d.1))
       clear h52 hd2 hk2))
  go_wp2_with fail
  go_at_call 259
  refine (jsync_any _ pj pd ring per low next dur epoch note _ w2 (unhide HJD) (DM.put_ok (unhide HM) (by omega) (unhide HS)) (by simpa [DM.put] using hN) (by simpa [DM.put] using hy) hn hn').mono ?_
  rintro e w3 ⟨rfl, hj3, hk3⟩
  have HJ3 := hide hj3
  have HK3 := hide hk3
  clear hj3 hk3
  go_wp2
  go_end0
  refine ⟨rfl, unhide HJ3, (unhide HK2).trans (unhide HK3) (fun k hk h => ?_)⟩
  rcases h with h | h
  · exact h
  · omega

end Go.Proofs.YthbmmbgkchiajaaGreat

/- begin: all sectors without a record are wiped. -/
namespace Go.Proofs.YthbmmbgkchiajaaGreat
set_option linter.unusedSimpArgs false
set_option linter.unusedVariables false
open Go.RowKit

theorem blank_cells : bcells blankB = List.replicate 64 (Value.int .u8 0) := by
  have e : ∀ i, byteCell 0 i = .int .u8 0 := fun i => by unfold byteCell; rw [Nat.zero_div]; rfl
  rw [blankB, bcells_pack 0 0 ByteArray.empty (by simp)]
  have e2 : (List.range 8).map (byteCell 0) = List.replicate 8 (.int .u8 0) := by
    rw [List.eq_replicate_iff]
    exact ⟨by simp, fun b hb => by obtain ⟨i, _, rfl⟩ := List.mem_map.1 hb; exact e i⟩
  rw [e2]
  have e3 : bcells ByteArray.empty = [] := rfl
  have e4 : (ByteArray.empty.size : Int) = 0 := rfl
  have e5 : 47 - ByteArray.empty.size = 47 := rfl
  rw [e3, e4, e5]
  show List.replicate 8 _ ++ List.replicate 8 _ ++ List.replicate 1 (Value.int .u8 0) ++ List.replicate 47 _ = _
  rw [List.replicate_append_replicate, List.replicate_append_replicate, List.replicate_append_replicate]
theorem blank_row : (bcells blankB).toArray = zrow := by rw [blank_cells]; unfold zrow; exact List.toArray_replicate 64 _
theorem blank_size : blankB.size = 64 := packB_size _ _ _ (by simp)

/-- Behind k writes. -/
def BegRel (S : Nat → Prop) (w : World) (pj pd ring per low next dur epoch : Nat) (note : ByteArray) (m : DM) (k : Nat) (wr : World) : Prop :=
  JD (fun x => (S x ∧ x < w.heap.size) ∨ w.heap.size < x) wr pj pd ring per low next dur epoch note (m.puts' (frees ring per next k) blankB) ∧ wr.heap[w.heap.size]? = some (.cells zrow 5 (0, 0)) ∧ Keeps S w wr

theorem frees_lt (ring per next k : Nat) (h : 0 < ring * per) : ∀ i ∈ frees ring per next k, i < ring * per + 2 := by
  intro i hi
  obtain ⟨x, _, rfl⟩ := List.mem_map.1 hi
  exact slot_lt _ _ _ h
theorem frees_len (ring per next k : Nat) : (frees ring per next k).length = k := by simp [frees]

theorem BegRel.step {S : Nat → Prop} {w w1 w2 : World} {pj pd ring per low next dur epoch k : Nat} {note : ByteArray} {m : DM} {D J : Nat → Prop} {vn : Value} {wr : World}
    (h1 : ∀ k, D k → (S k ∧ k < w.heap.size) ∨ w.heap.size < k) (h2 : ∀ k, J k → (S k ∧ k < w.heap.size) ∨ w.heap.size < k) (h3 : ∀ k, D k → ¬ J k) (h5 : JAt wr pj pd ring per low next dur epoch vn) (h6 : J pj) (h7 : Bytes (fun k => J k ∧ k ≠ pj) wr vn note)
    (hg : wr.heap[w.heap.size]? = some (.cells zrow 5 (0, 0))) (hk : Keeps S w wr) (hk1 : Keeps (fun _ => False) wr w1) (hd2 : PDisk (fun k => (D k ∧ k < wr.heap.size) ∨ w1.heap.size ≤ k) w2 pd ((m.puts' (frees ring per next k) blankB).put (slot ring per (next + k)) blankB)) (hk2 : Keeps (fun k => D k ∧ k < wr.heap.size) w1 w2) :
    BegRel S w pj pd ring per low next dur epoch note m (k + 1) w2 := by
  have hl := h5.lt
  have hgl := lt_of_heap hg
  have s1 := hk1.size
  have hk12 : Keeps (fun k => D k ∧ k < wr.heap.size) wr w2 := (hk1.mono (T := fun k => D k ∧ k < wr.heap.size) (fun _ _ f => f.elim)).trans hk2 (fun _ _ d => d)
  refine ⟨⟨fun k => (D k ∧ k < wr.heap.size) ∨ w1.heap.size ≤ k, fun k => J k ∧ k < wr.heap.size, vn, ?_, fun k d => h2 k d.1, ?_, ?_, h5.keep hk12 (fun d => h3 _ d.1 h6), ⟨h6, hl⟩, ?_⟩, ?_, ?_⟩
  · intro k d
    rcases d with d | d
    · exact h1 k d.1
    · exact .inr (by omega)
  · intro k d d'
    rcases d with d | d
    · exact h3 k d.1 d'.1
    · omega
  · rw [frees_succ, DM.puts'_snoc]; exact hd2
  · exact (h7.mono (fun k l d => ⟨⟨d.1, l⟩, d.2⟩)).keep hk12 (fun k _ d d' => h3 k d'.1 d.1.1)
  · refine hk12.heap hg (fun d => ?_)
    rcases h1 _ d.1 with h | h
    · omega
    · omega
  · refine hk.trans hk12 (fun i hi d => ?_)
    rcases h1 _ d.1 with h | h
    · exact h.1
    · omega

theorem BegRel.drewN {S : Nat → Prop} {w : World} {pj pd ring per low next dur epoch k : Nat} {note : ByteArray} {m : DM} {wr : World} (h : BegRel S w pj pd ring per low next dur epoch note m k wr) (n : Nat) : BegRel S w pj pd ring per low next dur epoch note m k (wr.drewN n) :=
  ⟨h.1.keep (Keeps.drewN' (S := fun _ => False) wr n) (fun _ _ _ f => f), h.2.1, h.2.2.drewN n⟩

/-- A write of blank bytes. -/
theorem write_blank (D : Nat → Prop) (pd gb q : Nat) (M : DM) (w1 : World) (hD : PDisk D w1 pd M) (hM : M.ok) (hq : q < M.dur.length) (hN : (M.puts.length + 1) * 72 ≤ 140737488355328) (hg : w1.heap[gb]? = some (.cells zrow 5 (0, 0))) (hn : ¬ D gb) :
    Calls Tryz.prog 190 #[.pointer (some ⟨pd, 0, none⟩), .int .i64 (q : Int), .slice (some ⟨gb, 0, none⟩) 64 64] w1 fun e w' => e = .returned (.int .i64 0) ∧ PDisk (fun k => D k ∨ w1.heap.size ≤ k) w' pd (M.put q blankB) ∧ Keeps D w1 w' :=
  dWrite_yes D pd M q gb 64 blankB w1 hD hM hq blank_size hN (by intro j u hj; rw [Nat.zero_add]; refine (cell_of_heap hg).trans ?_; rw [← blank_row]; simpa using hj) (lt_of_heap hg) hn (by omega)

attribute [local go_sem ↓] mulI_eq

set_option maxRecDepth 100000 in
set_option maxHeartbeats 800000 in
theorem begin_any (S : Nat → Prop) (pj pd ring per low next dur epoch : Nat) (note : ByteArray) (m : DM) (w : World) (hJ : JD S w pj pd ring per low next dur epoch note m) (hm : m.ok) (hN : (m.puts.length + 100) * 72 ≤ 140737488355328) (hy : m.syncs < 9223372036854775807)
    (hC : 1 ≤ ring * per ∧ ring * per ≤ 96) (hroom : ring * per + 2 ≤ m.dur.length) (hn : 1 ≤ next) (hn' : next < 4611686018427387904) (hlow : low ≤ next) (hspan : next ≤ low + ring * per) (hep : epoch < 4611686018427387904) (hnote : note.size ≤ 40) :
    Calls Tryz.prog 221 #[.pointer (some ⟨pj, 0, none⟩)] w fun e w' => e = .returned (.tuple #[]) ∧ JD (fun k => S k ∨ w.heap.size ≤ k) w' pj pd ring per low next (next - 1) epoch note (((m.puts' (frees ring per next (ring * per - (next - low))) blankB).put 1 (packB low epoch note)).sync) ∧ Keeps S w w' := by
  have hmk := run_make64
  have hkA : Keeps (fun _ => False) w (w.alloc (.cells zrow 5)) := (Keeps.refl _ _).alloc _
  have hR0 : BegRel S w pj pd ring per low next dur epoch note m 0 (w.alloc (.cells zrow 5)) := ⟨(JD.keep (hJ.mono (T := fun x => S x ∧ x < w.heap.size) (fun k l s => ⟨s, l⟩)) hkA (fun _ _ _ f => f)).mono (fun k l s => .inl s), heap_alloc_last w _, hkA.mono (fun _ _ f => f.elim)⟩
  obtain ⟨vn, hat, _⟩ := hR0.1.at
  rename_i hx; clear hx
  obtain ⟨c0, c1, c2, c3, c4, c5, c6, c7⟩ := hat.cells
  have HR0 := hide hR0
  have HM := hide hm
  obtain ⟨C, HQ⟩ : ∃ q : Nat, Hid (q = ring * per) := ⟨_, hide rfl⟩
  have hmul := fun W => run_mulI W ring per (by omega)
  rw [← unhide HQ] at hmul hC hroom hspan
  have hpl : pj < w.heap.size := hJ.own.2
  clear hJ hm hkA hR0 hat
  generalize hW : w.alloc (.cells zrow 5) = W0 at *
  go_enter Tryz.func221, Tryz.ntmps221
  go_wp2
  go_quiet (fail)
  clear c0 c1 c2 c3 c4 c5 c6 c7
  go_wp2
  go_loopw [26] (fun i wr => ∃ k : Nat, (k : Int) ≤ (C : Int) - ((next : Int) - (low : Int)) ∧ i = .int .i64 k ∧ Hid (BegRel S w pj pd ring per low next dur epoch note m k wr)) (fun i _ => C - (next - low) - (intOf i).toNat)
  case atStart =>
    exact ⟨0, by omega, rfl, hide ((unhide HR0).drewN _)⟩
  case round =>
    obtain ⟨k, hk, rfl, HR⟩ := hrel
    by_cases hlt : (k : Int) < (C : Int) - ((next : Int) - (low : Int))
    · obtain ⟨hJ, hg, hK⟩ := unhide HR
      obtain ⟨D, J, vn', h1, h2, h3, h4, h5, h6, h7⟩ := hJ
      obtain ⟨c0, c1, c2, c3, c4, c5, c6, c7⟩ := h5.cells
      have hpl2 := h5.lt
      have HDD := hide (Two.mono (T := fun k => D k ∧ k < wr.heap.size) h4 (fun k l d => ⟨d, l⟩) : PDisk (fun k => D k ∧ k < wr.heap.size) wr pd (m.puts' (frees ring per next k) blankB))
      have hsl : slot ring per (next + k) < m.dur.length := by have := slot_lt ring per (next + k) (by rw [← unhide HQ]; omega); rw [← unhide HQ] at this; omega
      have hok : (m.puts' (frees ring per next k) blankB).ok := DM.puts'_ok blank_size _ (unhide HM) (fun i hi => by have := frees_lt ring per next k (by rw [← unhide HQ]; omega) i hi; rw [← unhide HQ] at this; omega)
      have hmn : ((m.puts' (frees ring per next k) blankB).puts.length + 1) * 72 ≤ 140737488355328 := by rw [DM.puts'_len, frees_len]; exact Nat.le_trans (Nat.mul_le_mul_right 72 (by omega)) hN
      have hsl' : slot ring per (next + k) < (m.puts' (frees ring per next k) blankB).dur.length := by rw [DM.puts'_dur]; exact hsl
      have HSL := hide hsl'
      have HMOK := hide hok
      have HMN := hide hmn
      clear hok hmn hsl'
      have HSec : Hid (∀ W : World, W.cell? ⟨pj, 1, none⟩ = some (.int .i64 (ring : Int)) → W.cell? ⟨pj, 2, none⟩ = some (.int .i64 (per : Int)) → Calls Tryz.prog 257 #[.pointer (some ⟨pj, 0, none⟩), .int .i64 ((next : Int) + (k : Int))] W fun e w' => e = .returned (.int .i64 ((slot ring per (next + k) : Nat) : Int)) ∧ Keeps (fun _ => False) W w') := hide fun W h1 h2 => by
        have := jsector_any pj ring per (next + k) W h1 h2 (by rw [← unhide HQ]; exact hC) (by omega) (by omega)
        exact this
      have HH := hide (show (∀ k, D k → (S k ∧ k < w.heap.size) ∨ w.heap.size < k) ∧ (∀ k, J k → (S k ∧ k < w.heap.size) ∨ w.heap.size < k) ∧ (∀ k, D k → ¬ J k) ∧ JAt wr pj pd ring per low next dur epoch vn' ∧ J pj ∧ Bytes (fun k => J k ∧ k ≠ pj) wr vn' note ∧ wr.heap[w.heap.size]? = some (.cells zrow 5 (0, 0)) ∧ Keeps S w wr from ⟨h1, h2, h3, h5, h6, h7, hg, hK⟩)
      have HG := hide hg
      have hND : ∀ k, D k → k ≠ w.heap.size := fun k d e => by rcases h1 k d with h | h <;> omega
      have HND := hide hND
      have hpj : ¬ D pj := fun d => h3 _ d h6
      clear h1 h2 h3 h4 h5 h6 h7 hg hK hsl hND
      have HWR : Hid (IntKind.i64.wrap ((next : Int) + (k : Int)) = (next : Int) + (k : Int)) := hide (IntWalk.i64_in _ ⟨by omega, by omega⟩)
      obtain ⟨q, HQS⟩ : ∃ q : Nat, Hid (q = slot ring per (next + k)) := ⟨_, hide rfl⟩
      rw [← unhide HQS] at HSec HSL
      obtain ⟨M, HMM⟩ : ∃ M : DM, Hid (M = m.puts' (frees ring per next k) blankB) := ⟨_, hide rfl⟩
      rw [← unhide HMM] at HSL HMOK HMN HDD
      clear HR
      go_wp2
      go_region_held3 (fun w' => w'.cell? ⟨pj, 0, none⟩ = some (.pointer (some ⟨pd, 0, none⟩)) ∧ w'.cell? ⟨pj, 4, none⟩ = some (.int .i64 (next : Int))) (first | exact ⟨c0, c4⟩ | exact ⟨d0, d4⟩ | exact ⟨e0, e4⟩) (first
        | (go_at_call 257
           rw [unhide HWR]
           refine (unhide HSec wr.drew c1 c2).mono ?_
           rintro e w1 ⟨rfl, hk1⟩
           have hk1' : Keeps (fun _ => False) wr w1 := ⟨hk1.os, hk1.tape, hk1.output, hk1.size, hk1.block⟩
           have d0 : w1.cell? ⟨pj, 0, none⟩ = some (.pointer (some ⟨pd, 0, none⟩)) := (hk1'.cell (p := ⟨pj, 0, none⟩) hpl2 (fun f => f)).trans c0
           have d4 : w1.cell? ⟨pj, 4, none⟩ = some (.int .i64 (next : Int)) := (hk1'.cell (p := ⟨pj, 4, none⟩) hpl2 (fun f => f)).trans c4
           have HD1 := hide (Two.keep (unhide HDD) hk1' (fun _ _ _ f => f))
           have HG1 := hide (hk1'.heap (unhide HG) (fun f => f))
           have HK1 := hide hk1'
           have hs1 := hk1'.size
           clear hk1 hk1')
        | (go_at_call 190
           refine (write_blank (fun k => D k ∧ k < wr.heap.size) pd w.heap.size q M w1 (unhide HD1) (unhide HMOK) (unhide HSL) (unhide HMN) (unhide HG1) (fun h => unhide HND _ h.1 rfl)).mono ?_
           rintro e w2 ⟨rfl, hd2, hk2⟩
           have e0 : w2.cell? ⟨pj, 0, none⟩ = some (.pointer (some ⟨pd, 0, none⟩)) := (hk2.cell (p := ⟨pj, 0, none⟩) (by exact Nat.lt_of_lt_of_le hpl2 hs1) (fun d => hpj d.1)).trans d0
           have e4 : w2.cell? ⟨pj, 4, none⟩ = some (.int .i64 (next : Int)) := (hk2.cell (p := ⟨pj, 4, none⟩) (by exact Nat.lt_of_lt_of_le hpl2 hs1) (fun d => hpj d.1)).trans d4
           have HD2 := hide hd2
           have HK2 := hide hk2
           clear hd2 hk2))
      go_wp2
      go_roundw
      case rel =>
        refine ⟨k + 1, by omega, by go_num, hide ?_⟩
        obtain ⟨h1, h2, h3, h5, h6, h7, hg, hK⟩ := unhide HH
        have := unhide HD2
        rw [unhide HQS, unhide HMM] at this
        exact BegRel.step h1 h2 h3 h5 h6 h7 hg hK (unhide HK1) this (unhide HK2)
      case measure => simp [intOf]; omega
    · obtain ⟨hJ, hg, hK⟩ := unhide HR
      have hkk : k = C - (next - low) := by omega
      have HKK := hide hkk
      have hfr := frees_lt ring per next k (by rw [← unhide HQ]; omega)
      rw [← unhide HQ] at hfr
      have hok : (m.puts' (frees ring per next k) blankB).ok := DM.puts'_ok blank_size _ (unhide HM) (fun i hi => by have := hfr i hi; omega)
      have HJ := hide hJ
      have HOK := hide hok
      have HK := hide hK
      clear hJ hg hK hkk hfr hok
      go_wp2_with fail
      go_at_call 262
      refine (save_any _ pj pd ring per low next dur epoch note _ wr (unhide HJ) (unhide HOK) (by rw [DM.puts'_len, frees_len]; exact Nat.le_trans (Nat.mul_le_mul_right 72 (by omega)) hN) (by rw [DM.puts'_syncs]; exact hy) hn (by omega) (by rw [DM.puts'_dur]; omega) (by omega) hep hnote).mono ?_
      rintro e w3 ⟨rfl, hj3, hk3⟩
      have HJ3 := hide hj3
      have HK3 := hide hk3
      clear hj3 hk3
      go_wp2
      go_end0
      have hJ3 := unhide HJ3
      rw [unhide HKK, unhide HQ] at hJ3
      have s1 := (unhide HK).size
      refine ⟨rfl, hJ3.mono (fun x l h => ?_), (unhide HK).trans (unhide HK3) (fun x hx h => ?_)⟩
      · rcases h with (h | h) | h
        · exact .inl h.1
        · exact .inr (by omega)
        · exact .inr (by omega)
      · rcases h with h | h
        · exact h.1
        · omega

end Go.Proofs.YthbmmbgkchiajaaGreat

/- scan: how far the records go. -/
namespace Go.Proofs.YthbmmbgkchiajaaGreat
set_option linter.unusedSimpArgs false
set_option linter.unusedVariables false
open Go.RowKit

/-- What a journal's disk holds, as far as scan looks. -/
structure Scans (j : JM) (m : DM) : Prop where
  ok : j.ok
  room : j.ring * j.per + 2 ≤ m.dur.length
  live : ∀ n, j.low ≤ n → n ≤ j.L.length → m.read (slot j.ring j.per n) = j.recd n
  rest : j.L.length < (j.low - 1) / j.per * j.per + j.ring * j.per → Sec (m.read (slot j.ring j.per (j.L.length + 1))) (fun a => a ≠ j.L.length + 1)
theorem Found.scans {j : JM} {m : DM} (h : Found j m) : Scans j m := ⟨h.ok, h.room, h.live, h.rest⟩

theorem Scans.at {j : JM} {m : DM} (h : Scans j m) {n : Nat} (h0 : j.low ≤ n) (h1 : n ≤ j.L.length + 1) (h2 : n ≤ (j.low - 1) / j.per * j.per + j.ring * j.per) :
    ∃ a b t, m.read (slot j.ring j.per n) = packB a b t ∧ t.size ≤ 40 ∧ a < 4611686018427387904 ∧ b < 4611686018427387904 ∧ (a = n ↔ n ≤ j.L.length) := by
  by_cases hn : n ≤ j.L.length
  · obtain ⟨a, b, t, e, e1, e2, e3, e4⟩ := JM.rec_sec h.ok n hn (fun a => a = n) rfl
    exact ⟨a, b, t, (h.live n h0 hn).trans e, e1, e2, e3, by simp [e4, hn]⟩
  · have e : n = j.L.length + 1 := by omega
    subst e
    obtain ⟨a, b, t, e, e1, e2, e3, e4⟩ := h.rest (by omega)
    exact ⟨a, b, t, e, e1, e2, e3, by constructor; (intro h; exact absurd h e4); (intro h; omega)⟩

/-- In the midst of scan: all records below n have been found. -/
def ScanRel (S : Nat → Prop) (w : World) (j : JM) (m : DM) (pj pd dur epoch : Nat) (note : ByteArray) (n : Nat) (wr : World) : Prop :=
  JD S wr pj pd j.ring j.per j.low n dur epoch note m ∧ Keeps S w wr

theorem ScanRel.drewN {S : Nat → Prop} {w : World} {j : JM} {m : DM} {pj pd dur epoch : Nat} {note : ByteArray} {n : Nat} {wr : World} (h : ScanRel S w j m pj pd dur epoch note n wr) (q : Nat) : ScanRel S w j m pj pd dur epoch note n (wr.drewN q) :=
  ⟨h.1.keep (Keeps.drewN' (S := fun _ => False) wr q) (fun _ _ _ f => f), h.2.drewN q⟩

attribute [local go_sem ↓] mulI_eq

set_option maxRecDepth 100000 in
set_option maxHeartbeats 800000 in
theorem scan_any (S : Nat → Prop) (j : JM) (pj pd dur epoch : Nat) (note : ByteArray) (m : DM) (w : World) (hJ : JD S w pj pd j.ring j.per j.low j.low dur epoch note m) (hm : m.ok) (hN : m.puts.length * 72 ≤ 140737488355328) (hS : Scans j m) :
    Calls Tryz.prog 253 #[.pointer (some ⟨pj, 0, none⟩)] w fun e w' => e = .returned (.tuple #[]) ∧ JD S w' pj pd j.ring j.per j.low (j.L.length + 1) dur epoch note m ∧ Keeps S w w' := by
  obtain ⟨vn, hat, _⟩ := hJ.at
  rename_i hx; clear hx
  obtain ⟨c0, c1, c2, c3, c4, c5, c6, c7⟩ := hat.cells
  have hlow := hS.ok.low
  have hring := hS.ok.ring
  have hper := hS.ok.per
  have hfew := hS.ok.few
  have hwin := hS.ok.win
  have HJ0 : Hid (ScanRel S w j m pj pd dur epoch note j.low w) := hide ⟨hJ, Keeps.refl _ _⟩
  have HM := hide hm
  have HSC := hide hS
  obtain ⟨F, HF⟩ : ∃ F : Nat, Hid (F = (j.low - 1) / j.per) := ⟨_, hide rfl⟩
  have hF1 : F * j.per + 1 ≤ j.low := by have := Nat.div_mul_le_self (j.low - 1) j.per; rw [← unhide HF] at this; omega
  have hFb : F ≤ j.L.length := by have := Nat.div_le_self (j.low - 1) j.per; rw [← unhide HF] at this; omega
  have hF2 : j.low ≤ (F + 1) * j.per := by have := (Nat.div_lt_iff_lt_mul (k := j.per) (x := j.low - 1) (y := F + 1) (by omega)).1 (by rw [← unhide HF]; omega); omega
  rw [← unhide HF] at hwin
  have hseg := fun W h => segment_any pj j.per j.low W h (by omega) hper.2 hlow.1 (by omega)
  rw [← unhide HF] at hseg
  have HSEG := hide hseg
  clear hJ hm hS hseg hat
  have HC : Hid (1 ≤ j.ring * j.per ∧ j.ring * j.per ≤ 96) := hide ⟨by have := (unhide HSC).ok.pos; omega, (unhide HSC).ok.pos.2⟩
  go_enter Tryz.func253, Tryz.ntmps253
  go_wp2
  go_step3
  go_wp2_with fail
  go_at_call 256
  refine (unhide HSEG w c2).mono ?_
  rintro e w1 ⟨rfl, rfl⟩
  clear c0 c1 c2 c3 c4 c5 c6 c7
  go_wp2
  go_step3
  go_wp2
  go_loopg [3] j.ring (fun g s3 wx => ∃ s nx : Nat, s + g = F + j.ring ∧ F ≤ s ∧ s3 = .int .i64 s ∧ Hid (nx = max j.low (s * j.per + 1) ∧ nx ≤ j.L.length + 1 ∧ ScanRel S w1 j m pj pd dur epoch note nx wx))
  case atStart => exact ⟨F, j.low, rfl, Nat.le_refl _, rfl, hide ⟨by omega, hlow.2, unhide HJ0⟩⟩
  case round =>
    obtain ⟨s, nx, hsg, hFs, rfl, HR⟩ := hrel
    obtain ⟨hnx, hnxl, hR⟩ := unhide HR
    obtain ⟨vn', hat', _⟩ := hR.1.at
    rename_i hx; clear hx
    obtain ⟨c0, c1, c2, c3, c4, c5, c6, c7⟩ := hat'.cells
    have HNX := hide hnx
    have HNL := hide hnxl
    have HRR := hide hR
    clear HR hR hat' hnx hnxl
    cases gk with
    | zero =>
      have hs : s = F + j.ring := by omega
      have HSS := hide hs
      have hno : decide ((s : Int) < (F : Int) + (j.ring : Int)) = false := by simp; omega
      clear hs
      go_wp2
      try rw [Exit.noGoto_normal]
      go_end0
      have hfin : nx = j.L.length + 1 := by
        have h1 := unhide HNX
        have h2 := unhide HNL
        rw [unhide HSS, Nat.add_mul] at h1
        omega
      have hR := unhide HRR
      rw [hfin] at hR
      exact ⟨rfl, hR.1, hR.2⟩
    | succ g =>
      have hyes : decide ((s : Int) < (F : Int) + (j.ring : Int)) = true := by simp; omega
      obtain ⟨P, HP⟩ : ∃ P : Nat, Hid (P = s * j.per) := ⟨_, hide rfl⟩
      have hPF : s * j.per ≤ (F + j.ring) * j.per := Nat.mul_le_mul_right _ (by omega)
      have hPF2 : (s + 1) * j.per ≤ (F + j.ring) * j.per := Nat.mul_le_mul_right _ (by omega)
      have hLF : (F + 1) * j.per ≤ (s + 1) * j.per := Nat.mul_le_mul_right _ (by omega)
      have hFp : F * j.per ≤ j.L.length := by omega
      have hC2 := (unhide HC).2
      rw [Nat.add_mul F] at hPF hPF2
      have hPb : s * j.per ≤ 3305843009213693952 := by omega
      have hPb2 : (s + 1) * j.per ≤ 3305843009213693952 := by omega
      have hmul := fun W => run_mulI W s j.per (by omega)
      have hmul2' := fun W => run_mulI W (s + 1) j.per (by omega)
      have hlP : j.low ≤ (s + 1) * j.per := by omega
      have hsucc : (s + 1) * j.per = s * j.per + j.per := by rw [Nat.add_mul, Nat.one_mul]
      obtain ⟨P2, HP2⟩ : ∃ P : Nat, Hid (P = (s + 1) * j.per) := ⟨_, hide rfl⟩
      rw [← unhide HP] at hmul HNX hPb hsucc
      rw [← unhide HP2] at hPb2 hlP hsucc hmul2' hPF2
      have hmul2 : ∀ W, (mulI (.int .i64 ((s : Int) + 1)) (.int .i64 (j.per : Int))).run Tryz.prog W = .ok (.int .i64 (P2 : Int)) W := hmul2'
      have HWIN : Hid (P2 ≤ F * j.per + j.ring * j.per) := hide hPF2
      have HSU := hide hsucc
      clear hPF hPF2 hFp hC2 hwin hF1 hF2 hLF hmul2' hsucc
      go_wp2
      go_region
      clear c0 c1 c2 c3 c4 c5 c6 c7 hmul
      go_wp2
      all_goals
        go_loopg [4] (P2 + 1 - nx) (fun g s4 wx => ∃ n : Nat, n + g = P2 + 1 ∧ s4 = .int .i64 n ∧ Hid (j.low ≤ n ∧ P + 1 ≤ n ∧ n ≤ j.L.length + 1 ∧ ScanRel S w1 j m pj pd dur epoch note n wx))
        case atStart =>
          have h1 := unhide HNX
          have h2 := unhide HNL
          have h3 := unhide HSU
          refine ⟨nx, by omega, ?_, hide ⟨by omega, by omega, h2, (unhide HRR).drewN 1⟩⟩
          congr 1
          first | omega | (split <;> omega)
        case round =>
          obtain ⟨n, hng, rfl, HR⟩ := hrel
          obtain ⟨hn0, hn1, hn2, hR⟩ := unhide HR
          obtain ⟨vn2, hat2, _⟩ := hR.1.at
          rename_i hx; clear hx
          obtain ⟨c0, c1, c2, c3, c4, c5, c6, c7⟩ := hat2.cells
          cases gk with
          | zero =>
            have hno : decide ((n : Int) ≤ (P2 : Int)) = false := by simp; omega
            have HRR2 := hide hR
            clear hat2 hR HR
            go_wp2
            go_roundg g
            case rel =>
              refine ⟨s + 1, n, by omega, by omega, by go_num, hide ⟨?_, hn2, unhide HRR2⟩⟩
              rw [← unhide HP2]; omega
            case measure => omega
          | succ g' =>
            have hyes : decide ((n : Int) ≤ (P2 : Int)) = true := by simp; omega
            have hw2 := unhide HWIN
            obtain ⟨a, b, t, e1, e2, e3, e4, e5⟩ := (unhide HSC).at hn0 hn2 (by rw [← unhide HF]; omega)
            have HST := hide (fun W (hJ : JAt W pj pd j.ring j.per j.low n dur epoch vn2) (hD : PDisk S W pd m) => stored_any S pj pd j.ring j.per j.low n dur epoch n a b vn2 t m W hJ hD (unhide HM) hN (unhide HC) (unhide HSC).room (by omega) (by omega) e1 e2 e3 e4)
            have HAT := hide hat2
            have HDD := hide hR.1.disk
            have HRR2 := hide hR
            clear hat2 hR HR hw2
            have HN2 := hide hn2
            go_wp2_with fail
            go_at_call 263
            refine (unhide HST wr (unhide HAT) (unhide HDD)).mono ?_
            rintro e w2 ⟨gq, rfl, _, _, hk2⟩
            rename_i hy1 hy2; clear hy1 hy2
            have HR2 : Hid (ScanRel S w1 j m pj pd dur epoch note n w2) := hide ⟨(unhide HRR2).1.keep hk2 (fun _ _ _ f => f), (unhide HRR2).2.trans (hk2.mono (T := S) (fun _ _ f => f.elim)) (fun _ _ h => h)⟩
            clear hk2
            obtain ⟨vn3, hat3, _⟩ := (unhide HR2).1.at
            rename_i hx; clear hx
            obtain ⟨d0, d1, d2, d3, d4, d5, d6, d7⟩ := hat3.cells
            have hf4 := hat3.frozen 4
            clear hat3
            by_cases hlast : n ≤ j.L.length
            · have ha := e5.2 hlast
              have hne : ((a : Int) != (n : Int)) = false := by rw [bne_eq_false_iff_eq]; omega
              have HA := hide hlast
              clear e5 e1 ha
              go_wp2
              go_roundg g'
              case rel =>
                refine ⟨n + 1, by omega, by go_num, hide ⟨by omega, by omega, by omega, ?_⟩⟩
                exact ⟨(unhide HR2).1.setNext (n + 1), (unhide HR2).2.setCell (p := ⟨pj, 4, none⟩) (.inl (unhide HR2).1.own.1) _⟩
              case measure => omega
            · have hne : ((a : Int) != (n : Int)) = true := by
                rw [bne_iff_ne]
                intro h
                exact hlast (e5.1 (by omega))
              have HE : Hid (n = j.L.length + 1) := hide (by omega)
              clear e5 e1
              go_wp2
              try rw [Exit.noGoto_normal]
              go_end0
              have hR2 := unhide HR2
              rw [unhide HE] at hR2
              exact ⟨rfl, hR2.1, hR2.2⟩

end Go.Proofs.YthbmmbgkchiajaaGreat
