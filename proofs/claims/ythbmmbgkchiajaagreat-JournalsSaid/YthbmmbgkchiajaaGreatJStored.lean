
/- What stands where a record has its place. -/
import Derived.Test.YthbmmbgkchiajaaGreatJSmall
namespace Go.Proofs.YthbmmbgkchiajaaGreat
open Go.RowKit

/-- A journal's struct: block pj; its disk is block pd. -/
def jcells (pd ring per low next dur epoch : Nat) (vn : Value) : Array Value := #[.pointer (some ⟨pd, 0, none⟩), .int .i64 (ring : Int), .int .i64 (per : Int), .int .i64 (low : Int), .int .i64 (next : Int), .int .i64 (dur : Int), .int .i64 (epoch : Int), vn]
def JAt (w : World) (pj pd ring per low next dur epoch : Nat) (vn : Value) : Prop := w.heap[pj]? = some (.cells #[.pointer (some ⟨pd, 0, none⟩), .int .i64 (ring : Int), .int .i64 (per : Int), .int .i64 (low : Int), .int .i64 (next : Int), .int .i64 (dur : Int), .int .i64 (epoch : Int), vn] 282 (0, 0))

theorem JAt.cells {w : World} {pj pd ring per low next dur epoch : Nat} {vn : Value} (h : JAt w pj pd ring per low next dur epoch vn) :
    w.cell? ⟨pj, 0, none⟩ = some (.pointer (some ⟨pd, 0, none⟩)) ∧ w.cell? ⟨pj, 1, none⟩ = some (.int .i64 (ring : Int)) ∧ w.cell? ⟨pj, 2, none⟩ = some (.int .i64 (per : Int)) ∧ w.cell? ⟨pj, 3, none⟩ = some (.int .i64 (low : Int)) ∧
    w.cell? ⟨pj, 4, none⟩ = some (.int .i64 (next : Int)) ∧ w.cell? ⟨pj, 5, none⟩ = some (.int .i64 (dur : Int)) ∧ w.cell? ⟨pj, 6, none⟩ = some (.int .i64 (epoch : Int)) ∧ w.cell? ⟨pj, 7, none⟩ = some vn :=
  ⟨cell_of_heap h, cell_of_heap h, cell_of_heap h, cell_of_heap h, cell_of_heap h, cell_of_heap h, cell_of_heap h, cell_of_heap h⟩
theorem JAt.frozen {w : World} {pj pd ring per low next dur epoch : Nat} {vn : Value} (h : JAt w pj pd ring per low next dur epoch vn) (o : Nat) : w.frozen? ⟨pj, o, none⟩ = false := frozen_of_heap h
theorem JAt.keep {T : Nat → Prop} {w w' : World} {pj pd ring per low next dur epoch : Nat} {vn : Value} (h : JAt w pj pd ring per low next dur epoch vn) (hk : Keeps T w w') (hn : ¬ T pj) : JAt w' pj pd ring per low next dur epoch vn := hk.heap h hn
theorem JAt.lt {w : World} {pj pd ring per low next dur epoch : Nat} {vn : Value} (h : JAt w pj pd ring per low next dur epoch vn) : pj < w.heap.size := lt_of_heap h

theorem Keeps.drewN' {S : Nat → Prop} (w : World) (n : Nat) : Keeps S w (w.drewN n) := (Keeps.refl S w).drewN n

set_option maxRecDepth 100000 in
set_option maxHeartbeats 400000 in
theorem stored_any (S : Nat → Prop) (pj pd ring per low next dur epoch n a b : Nat) (vn : Value) (t : ByteArray) (m : DM) (w : World) (hJ : JAt w pj pd ring per low next dur epoch vn) (hD : PDisk S w pd m) (hm : m.ok) (hN : m.puts.length * 72 ≤ 140737488355328)
    (hC : 1 ≤ ring * per ∧ ring * per ≤ 96) (hroom : ring * per + 2 ≤ m.dur.length) (hn : 1 ≤ n) (hn' : n < 9223372036854775807)
    (hr : m.read (slot ring per n) = packB a b t) (ht : t.size ≤ 40) (ha : a < 4611686018427387904) (hb : b < 4611686018427387904) :
    Calls Tryz.prog 263 #[.pointer (some ⟨pj, 0, none⟩), .int .i64 (n : Int)] w fun e w' => ∃ g, e = .returned (.tuple #[.int .i64 (a : Int), .slice (some ⟨g, 17, none⟩) t.size 47]) ∧ w.heap.size ≤ g ∧ w'.heap[g]? = some (.cells (bcells (packB a b t)).toArray 305 (0, 0)) ∧ Keeps (fun _ => False) w w' := by
  obtain ⟨c0, c1, c2, _⟩ := hJ.cells
  rename_i hx; clear hx
  have HD := hide hD
  have HM := hide hm
  have HS := hide hC
  have hsl : slot ring per n < m.dur.length := by have := slot_lt ring per n (by omega); omega
  have HSL := hide hsl
  have HR := hide hr
  have HSec : Hid (∀ W : World, W.cell? ⟨pj, 1, none⟩ = some (.int .i64 (ring : Int)) → W.cell? ⟨pj, 2, none⟩ = some (.int .i64 (per : Int)) → Calls Tryz.prog 257 #[.pointer (some ⟨pj, 0, none⟩), .int .i64 (n : Int)] W fun e w' => e = .returned (.int .i64 ((slot ring per n : Nat) : Int)) ∧ Keeps (fun _ => False) W w') := hide fun W h1 h2 => jsector_any pj ring per n W h1 h2 hC hn hn'
  have hpl := hJ.lt
  clear hJ hD hm hC hr hsl hroom
  generalize slot ring per n = q at *
  go_enter Tryz.func263, Tryz.ntmps263
  go_wp2
  go_region_held3 (fun w' => w'.cell? ⟨pj, 0, none⟩ = some (.pointer (some ⟨pd, 0, none⟩))) (first | exact c0 | exact c02 | exact c01) (first
    | (go_at_call 257; refine (unhide HSec w.drew c1 c2).mono ?_; rintro e w1 ⟨rfl, hk1⟩; have hk1' : Keeps (fun _ => False) w w1 := ⟨hk1.os, hk1.tape, hk1.output, hk1.size, hk1.block⟩; have c01 : w1.cell? ⟨pj, 0, none⟩ = some (.pointer (some ⟨pd, 0, none⟩)) := (hk1'.cell (p := ⟨pj, 0, none⟩) hpl (fun f => f)).trans c0; have HD1 := hide (Two.keep (unhide HD) hk1' (fun _ _ _ f => f)); have HK1 := hide hk1'; have hs1 := hk1'.size; clear hk1 hk1')
    | (go_at_call 184; refine (dRead_yes S pd m q w1 (unhide HD1) (unhide HM) (unhide HSL) hN).mono ?_; rintro e w2 ⟨g, rfl, hg, hgg, hk⟩; have c02 : w2.cell? ⟨pj, 0, none⟩ = some (.pointer (some ⟨pd, 0, none⟩)) := (hk.cell (p := ⟨pj, 0, none⟩) (by exact Nat.lt_of_lt_of_le hpl hs1) (fun f => f)).trans c01; rw [unhide HR] at hgg; have HG := hide hgg; have HK := hide hk; have HGS : Hid (w.heap.size ≤ g) := hide (Nat.le_trans hs1 hg); clear hgg hk hg))
  go_wp2_with fail
  go_at_call 251
  refine (unpack_any g a b t 305 _ (by omega) (by omega) ht (unhide HG)).mono ?_
  rintro e w3 ⟨rfl, hk3⟩
  have HG3 := hide (hk3.heap (unhide HG) (fun f => f))
  have HK3 := hide hk3
  clear hk3
  go_wp2
  go_ret2
  exact ⟨g, rfl, unhide HGS, unhide HG3, ((unhide HK1).trans (unhide HK) (fun _ _ f => f)).trans (unhide HK3) (fun _ _ f => f)⟩

end Go.Proofs.YthbmmbgkchiajaaGreat
