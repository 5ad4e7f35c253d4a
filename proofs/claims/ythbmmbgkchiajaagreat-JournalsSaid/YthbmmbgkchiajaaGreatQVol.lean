
/- A volume of the script: a disk, and maybe a journal on it; created, opened. -/
import Derived.Test.YthbmmbgkchiajaaGreatQRef
import Derived.Test.YthbmmbgkchiajaaGreatPlainR

namespace Go.Proofs.YthbmmbgkchiajaaGreat
open Go.RowKit

inductive VM where
  | plain (n : Nat)
  | jour (j : JM) (m : DM) (use : Bool)

/-- The program's side of a volume lies in D, the document's in R. -/
def VolS (D R : Nat → Prop) (w : World) (v : Nat) : VM → Prop
  | .plain n => (∃ d r dirty, w.heap[v]? = some (.cells #[.pointer (some ⟨d, 0, none⟩), .pointer (some ⟨r, 0, none⟩), .int .i64 (n : Int), .pointer none, .pointer none, .bool dirty] 187 (0, 0)) ∧ PDisk D w d (freshDM n) ∧ RDisk R w r (freshDM n) ∧ 1 ≤ n ∧ n ≤ 128)
  | .jour j m use => ∃ d r rj dirty vj, w.heap[v]? = some (.cells #[.pointer (some ⟨d, 0, none⟩), .pointer (some ⟨r, 0, none⟩), .int .i64 (m.dur.length : Int), vj, .pointer (some ⟨rj, 0, none⟩), .bool dirty] 187 (0, 0)) ∧ RJ R w rj j ∧
      ((use = true ∧ ∃ pj, vj = .pointer (some ⟨pj, 0, none⟩) ∧ JUse D w pj d j m) ∨ (use = false ∧ vj = .pointer none ∧ PDisk D w d m ∧ Found j m ∧ m.puts = [] ∧ m.ok ∧ j.safe = j.L.length))

theorem VolS.mono {D R D' R' : Nat → Prop} {w : World} {v : Nat} {x : VM} (h : VolS D R w v x) (hd : ∀ k, k < w.heap.size → D k → D' k) (hr : ∀ k, k < w.heap.size → R k → R' k) : VolS D' R' w v x := by
  cases x with
  | plain n =>
    obtain ⟨d, r, dirty, h1, h2, h3, h4⟩ := h
    exact ⟨d, r, dirty, h1, Two.mono h2 hd, Two.mono h3 hr, h4⟩
  | jour j m use =>
    obtain ⟨d, r, rj, dirty, vj, h1, h2, h3⟩ := h
    refine ⟨d, r, rj, dirty, vj, h1, h2.mono hr, ?_⟩
    rcases h3 with ⟨e, pj, e1, e2⟩ | ⟨e, e1, e2, e3⟩
    · exact .inl ⟨e, pj, e1, e2.mono hd⟩
    · exact .inr ⟨e, e1, Two.mono e2 hd, e3⟩
theorem VolS.keep {D R T : Nat → Prop} {w w' : World} {v : Nat} {x : VM} (h : VolS D R w v x) (hk : Keeps T w w') (hv : ¬ T v) (hd : ∀ k, k < w.heap.size → D k → ¬ T k) (hr : ∀ k, k < w.heap.size → R k → ¬ T k) : VolS D R w' v x := by
  cases x with
  | plain n =>
    obtain ⟨d, r, dirty, h1, h2, h3, h4⟩ := h
    exact ⟨d, r, dirty, hk.heap h1 hv, Two.keep h2 hk hd, Two.keep h3 hk hr, h4⟩
  | jour j m use =>
    obtain ⟨d, r, rj, dirty, vj, h1, h2, h3⟩ := h
    refine ⟨d, r, rj, dirty, vj, hk.heap h1 hv, h2.keep hk hr, ?_⟩
    rcases h3 with ⟨e, pj, e1, e2⟩ | ⟨e, e1, e2, e3⟩
    · exact .inl ⟨e, pj, e1, e2.keep hk hd⟩
    · exact .inr ⟨e, e1, Two.keep e2 hk hd, e3⟩
theorem VolS.lt {D R : Nat → Prop} {w : World} {v : Nat} {x : VM} (h : VolS D R w v x) : v < w.heap.size := by
  cases x with
  | plain n => obtain ⟨d, r, dirty, h1, _⟩ := h; exact lt_of_heap h1
  | jour j m use => obtain ⟨d, r, rj, dirty, vj, h1, _⟩ := h; exact lt_of_heap h1

/-- A volume, apart from all else. -/
def VolA (D R : Nat → Prop) (w : World) (v : Nat) (x : VM) : Prop := VolS D R w v x ∧ (∀ k, D k → ¬ R k) ∧ ¬ D v ∧ ¬ R v

/-- What a step on a volume does. -/
def QStep (D R : Nat → Prop) (w : World) (v : Nat) (x' : VM) (w' : World) : Prop :=
  (∃ D' R', VolA D' R' w' v x' ∧ (∀ k, k < w.heap.size → (D' k → D k) ∧ (R' k → R k))) ∧ Keeps (fun k => k = v ∨ D k ∨ R k) w w'

/-- The disk of a volume. -/
def VM.dm : VM → DM
  | .plain n => freshDM n
  | .jour _ m _ => m
theorem VolS.disk {D R : Nat → Prop} {w : World} {v : Nat} {x : VM} (h : VolS D R w v x) : ∃ d r vj vr dirty, w.heap[v]? = some (.cells #[.pointer (some ⟨d, 0, none⟩), .pointer (some ⟨r, 0, none⟩), .int .i64 (x.dm.dur.length : Int), .pointer vj, .pointer vr, .bool dirty] 187 (0, 0)) ∧ PDisk D w d x.dm ∧ x.dm.ok ∧ (x.dm.puts.length + 101) * 72 ≤ 140737488355328 := by
  cases x with
  | plain n =>
    obtain ⟨d, r, dirty, h1, h2, h3, h4, h5⟩ := h
    exact ⟨d, r, none, none, dirty, by rw [show (VM.plain n).dm.dur.length = n by simp [VM.dm, freshDM]]; exact h1, h2, freshDM_ok n h4 h5, by show (0 + 101) * 72 ≤ _; omega⟩
  | jour j m use =>
    obtain ⟨d, r, rj, dirty, vj, h1, h2, h3⟩ := h
    rcases h3 with ⟨e, pj, rfl, e2⟩ | ⟨e, rfl, e2, e3, e4, e5, e6⟩
    · exact ⟨d, r, _, _, dirty, h1, e2.1.disk, e2.2.2, e2.2.1.fewPuts⟩
    · exact ⟨d, r, _, _, dirty, h1, e2, e5, by show (m.puts.length + 101) * 72 ≤ _; rw [e4]; show (0 + 101) * 72 ≤ _; omega⟩

/-- The operation in a block of its own, and what is kept while the volume's own blocks turn. -/
structure QStart (w : World) (v : Nat) (k a b c : Int) (s : ByteArray) (vk vp : Value) (D R D0 R0 : Nat → Prop) (x : VM) (W0 : World) : Prop where
  hW : W0 = w.alloc (.cells #[.int .i64 k, .int .i64 a, .int .i64 b, .int .i64 c, .string s, vk, vp] 81)
  vol : VolA D0 R0 W0 v x
  hD : ∀ k, D0 k → D k ∧ k < w.heap.size
  hR : ∀ k, R0 k → R k ∧ k < w.heap.size
  hv : v < w.heap.size
  keeps : Keeps (fun _ => False) w W0
  size : W0.heap.size = w.heap.size + 1
  ops : ∀ X, Keeps (fun k => k = v ∨ D0 k ∨ R0 k) W0 X → X.cell? ⟨w.heap.size, 0, none⟩ = some (.int .i64 k) ∧ X.cell? ⟨w.heap.size, 1, none⟩ = some (.int .i64 a) ∧ X.cell? ⟨w.heap.size, 2, none⟩ = some (.int .i64 b) ∧ X.cell? ⟨w.heap.size, 3, none⟩ = some (.int .i64 c) ∧ X.cell? ⟨w.heap.size, 4, none⟩ = some (.string s) ∧ X.cell? ⟨w.heap.size, 5, none⟩ = some vk ∧ X.cell? ⟨w.heap.size, 6, none⟩ = some vp

theorem VolA.start {D R : Nat → Prop} {w : World} {v : Nat} {x : VM} (h : VolA D R w v x) (k a b c : Int) (s : ByteArray) (vk vp : Value) :
    ∃ D0 R0, QStart w v k a b c s vk vp D R D0 R0 x (w.alloc (.cells #[.int .i64 k, .int .i64 a, .int .i64 b, .int .i64 c, .string s, vk, vp] 81)) := by
  have hk : Keeps (fun _ => False) w (w.alloc (.cells #[.int .i64 k, .int .i64 a, .int .i64 b, .int .i64 c, .string s, vk, vp] 81)) := (Keeps.refl _ _).alloc _
  have hb := heap_alloc_last w (.cells #[.int .i64 k, .int .i64 a, .int .i64 b, .int .i64 c, .string s, vk, vp] 81)
  obtain ⟨h1, h2, h3, h4⟩ := h
  have hv := h1.lt
  refine ⟨fun k => D k ∧ k < w.heap.size, fun k => R k ∧ k < w.heap.size, ⟨rfl, ⟨(h1.mono (fun k l d => ⟨d, l⟩) (fun k l d => ⟨d, l⟩)).keep hk (fun f => f) (fun _ _ _ f => f) (fun _ _ _ f => f), fun k d d' => h2 k d.1 d'.1, fun d => h3 d.1, fun d => h4 d.1⟩, fun k d => d, fun k d => d, hv, hk, by unfold World.alloc; exact Array.size_push _, fun X hX => ?_⟩⟩
  have q := hX.heap hb (fun h => by rcases h with h | h | h <;> omega)
  exact ⟨cell_of_heap q, cell_of_heap q, cell_of_heap q, cell_of_heap q, cell_of_heap q, cell_of_heap q, cell_of_heap q⟩

/-- A step that leaves the volume alone. -/
theorem qstep_same {D R : Nat → Prop} {w w' : World} {v : Nat} {x : VM} (h : VolA D R w v x) (hk : Keeps (fun _ => False) w w') : QStep D R w v x w' :=
  ⟨⟨D, R, ⟨h.1.keep hk (fun f => f) (fun _ _ _ f => f) (fun _ _ _ f => f), h.2⟩, fun _ _ => ⟨id, id⟩⟩, hk.mono (fun _ _ f => f.elim)⟩

theorem Keeps.ofDrew {S : Nat → Prop} {w w' : World} (h : Keeps S w.drew w') : Keeps S w w' := ⟨h.os, h.tape, h.output, h.size, h.block⟩

set_option maxRecDepth 100000 in
set_option maxHeartbeats 800000 in
theorem created_no (D R : Nat → Prop) (v : Nat) (x : VM) (k a b c : Int) (s : ByteArray) (vk vp : Value) (w : World) (h : VolA D R w v x)
    (hC : ∀ (d : Nat) (W : World), PDisk D W d x.dm → x.dm.ok → Calls Tryz.prog 149 #[.pointer (some ⟨d, 0, none⟩), .int .i64 b, .int .i64 c] W fun e w' => e = .returned (.tuple #[.pointer none, .int .i64 1]) ∧ w' = W)
    (hG : ∀ (W : World), Calls Tryz.prog 250 #[.int .i64 (x.dm.dur.length : Int), .int .i64 b, .int .i64 c] W fun e w' => e = .returned (.bool false) ∧ w' = W) :
    Calls Tryz.prog 122 #[.pointer (some ⟨v, 0, none⟩), opv k a b c s vk vp] w fun e w' => e = .returned (.bool true) ∧ QStep D R w v x w' := by
  have HV := hide h
  obtain ⟨D0, R0, hst⟩ := h.start k a b c s vk vp
  obtain ⟨d, r, vj, vr, dirty, hv, hd, hok, hN⟩ := hst.vol.1.disk
  have HKW := hide hst.keeps
  obtain ⟨p0, p1, p2, p3, p4, p5, p6⟩ := hst.ops _ (Keeps.refl _ _)
  have c0 := cell_of_heap (o := 0) hv
  have c2 := cell_of_heap (o := 2) hv
  have c4 := cell_of_heap (o := 4) hv
  have c5 := cell_of_heap (o := 5) hv
  simp at c0 c2 c4 c5
  have hD1 := Two.mono (T := D) hd (fun k _ q => (hst.hD k q).1)
  have hC' : ∀ W, Keeps (fun _ => False) (w.alloc (.cells #[.int .i64 k, .int .i64 a, .int .i64 b, .int .i64 c, .string s, vk, vp] 81)) W → Calls Tryz.prog 149 #[.pointer (some ⟨d, 0, none⟩), .int .i64 b, .int .i64 c] W fun e w' => e = .returned (.tuple #[.pointer none, .int .i64 1]) ∧ w' = W := fun W hW => hC d W (Two.keep hD1 hW (fun _ _ _ f => f)) hok
  have HC := hide hC'
  clear hC' hD1
  have HG := hide (fun W => rCreate_no (x.dm.dur.length : Int) b c W (hG W))
  clear h hst hd hv hC hG
  go_enter Tryz.func122, Tryz.ntmps122
  go_wp2_with fail
  generalize hW0 : w.alloc (.cells #[.int .i64 k, .int .i64 a, .int .i64 b, .int .i64 c, .string s, vk, vp] 81) = W0 at *
  clear hW0
  go_region_held3 (fun w' => w'.cell? ⟨v, 0, none⟩ = some (.pointer (some ⟨d, 0, none⟩)) ∧ w'.cell? ⟨w.heap.size, 2, none⟩ = some (.int .i64 b) ∧ w'.cell? ⟨w.heap.size, 3, none⟩ = some (.int .i64 c)) (exact ⟨c0, p2, p3⟩) ((go_at_call 149; refine (unhide HC W0.drew ((Keeps.refl _ _).drew)).mono ?_; rintro e w1 ⟨rfl, rfl⟩))
  go_wp2
  go_region_held3 (fun w' => w'.cell? ⟨v, 2, none⟩ = some (.int .i64 (x.dm.dur.length : Int)) ∧ w'.cell? ⟨w.heap.size, 2, none⟩ = some (.int .i64 b) ∧ w'.cell? ⟨w.heap.size, 3, none⟩ = some (.int .i64 c)) (exact ⟨c2, p2, p3⟩) ((go_at_call 181; refine (unhide HG _).mono ?_; rintro e w1 ⟨rfl, rfl⟩))
  go_wp2
  go_ret
  exact ⟨rfl, qstep_same (unhide HV) (((unhide HKW).drew).drew)⟩

end Go.Proofs.YthbmmbgkchiajaaGreat

/- created where there is room; opened. -/
namespace Go.Proofs.YthbmmbgkchiajaaGreat
open Go.RowKit

theorem blank_zero : blankB = zero64 := by decide
theorem fresh_read (n q : Nat) (hq : q < n) : (freshDM n).read q = packB 0 0 ByteArray.empty := by
  rw [DM.read_nil _ rfl]
  show (List.replicate n zero64).getD q _ = blankB
  rw [blank_zero, List.getD_eq_getElem?_getD, List.getElem?_replicate, if_pos hq]; rfl

set_option maxRecDepth 100000 in
set_option maxHeartbeats 800000 in
theorem created_yes (D R : Nat → Prop) (v ring per : Nat) (x : VM) (k a : Int) (s : ByteArray) (vk vp : Value) (w : World) (h : VolA D R w v x) (hr : 2 ≤ ring ∧ ring ≤ 6) (hp : 2 ≤ per ∧ per ≤ 16) (hroom : ring * per + 2 ≤ x.dm.dur.length) (hy : x.dm.syncs < 9223372036854775807) :
    Calls Tryz.prog 122 #[.pointer (some ⟨v, 0, none⟩), opv k a ring per s vk vp] w fun e w' => e = .returned (.bool true) ∧ QStep D R w v (.jour (newJM ring per) (createdDM ring per x.dm) true) w' := by
  have HV := hide h
  obtain ⟨D0, R0, hst⟩ := h.start k a ring per s vk vp
  obtain ⟨d, r, vj, vr, dirty, hv, hd, hok, hN⟩ := hst.vol.1.disk
  have HKW := hide hst.keeps
  obtain ⟨p0, p1, p2, p3, p4, p5, p6⟩ := hst.ops _ (Keeps.refl _ _)
  have c0 := cell_of_heap (o := 0) hv
  have c2 := cell_of_heap (o := 2) hv
  have c4 := cell_of_heap (o := 4) hv
  have c5 := cell_of_heap (o := 5) hv
  simp at c0 c2 c4 c5
  have HC := hide (fun W (hW : Keeps (fun _ => False) (w.alloc (.cells #[.int .i64 k, .int .i64 a, .int .i64 (ring : Int), .int .i64 (per : Int), .string s, vk, vp] 81)) W) => use_create D0 d ring per x.dm W (Two.keep hd hW (fun _ _ _ f => f)) hok hN hy hr hp hroom)
  have HG := hide (fun W => rCreate_yes x.dm.dur.length ring per W hr hp hroom)
  have HST := hide hst
  have HHV := hide hv
  have hvl := hst.hv
  have hszw := hst.size
  have hNDv : ¬ D0 v := hst.vol.2.2.1
  clear h hst hd hv
  go_enter Tryz.func122, Tryz.ntmps122
  go_wp2_with fail
  generalize hW0 : w.alloc (.cells #[.int .i64 k, .int .i64 a, .int .i64 (ring : Int), .int .i64 (per : Int), .string s, vk, vp] 81) = W0 at *
  clear hW0
  go_region_held3 (fun w' => w'.cell? ⟨v, 0, none⟩ = some (.pointer (some ⟨d, 0, none⟩)) ∧ w'.cell? ⟨w.heap.size, 2, none⟩ = some (.int .i64 (ring : Int)) ∧ w'.cell? ⟨w.heap.size, 3, none⟩ = some (.int .i64 (per : Int))) (first | exact ⟨c0, p2, p3⟩ | exact ⟨d0, q2, q3⟩) ((go_at_call 149; refine (unhide HC W0.drew ((Keeps.refl _ _).drew)).mono ?_; rintro e w1 ⟨pj, rfl, hpj, hj1, hk1'⟩; have hk1 := hk1'.ofDrew; have hv1 := hk1.heap (unhide HHV) hNDv; have d0 := cell_of_heap (o := 0) hv1; have d2 := cell_of_heap (o := 2) hv1; simp at d0 d2; obtain ⟨q0, q1, q2, q3, q4, q5, q6⟩ := (unhide HST).ops w1 (hk1.mono (fun k _ q => .inr (.inl q))); have HJ1 := hide hj1; have HK1 := hide hk1; have HV1 := hide hv1; have hs1 := hk1.size; clear hj1 hk1 hk1' hv1))
  clear c0 c2 c4 c5 p0 p1 p2 p3 p4 p5 p6
  go_wp2
  go_region_held3 (fun w' => w'.cell? ⟨v, 2, none⟩ = some (.int .i64 (x.dm.dur.length : Int)) ∧ w'.cell? ⟨w.heap.size, 2, none⟩ = some (.int .i64 (ring : Int)) ∧ w'.cell? ⟨w.heap.size, 3, none⟩ = some (.int .i64 (per : Int))) (first | exact ⟨d2, q2, q3⟩ | exact ⟨f2, g2, g3⟩) ((go_at_call 181; refine (unhide HG w1.drew).mono ?_; rintro e w2 ⟨rj, rfl, hrj, hj2, hk2'⟩; have hk2 := hk2'.ofDrew; have hv2 := hk2.heap (unhide HV1) (fun f => f); have f2 := cell_of_heap (o := 2) hv2; have f3 := cell_of_heap (o := 3) hv2; have f4 := cell_of_heap (o := 4) hv2; simp at f2 f3 f4; obtain ⟨g0, g1, g2, g3, g4, g5, g6⟩ := (unhide HST).ops w2 (((unhide HK1).mono (T := fun k => k = v ∨ D0 k ∨ R0 k) (fun k _ q => .inr (.inl q))).trans hk2 (fun _ _ f => f.elim)); have z3 := frozen_of_heap (o := 3) hv2; have z4 := frozen_of_heap (o := 4) hv2; have HJ2 := hide hj2; have HK2 := hide hk2; have HV2 := hide hv2; have hs2 := hk2.size; clear hj2 hk2 hk2' hv2))
  go_wp2
  go_ret
  have hv3 := heap_setCell_same (o := 4) (heap_setCell_same (o := 3) (unhide HV2) (.pointer (some ⟨pj, 0, none⟩))) (.pointer (some ⟨rj, 0, none⟩))
  have hk3 : Keeps (fun k => k = v) w2 ((w2.setCell ⟨v, 3, none⟩ (.pointer (some ⟨pj, 0, none⟩))).setCell ⟨v, 4, none⟩ (.pointer (some ⟨rj, 0, none⟩))) := ((Keeps.refl (fun k => k = v) w2).setCell (p := ⟨v, 3, none⟩) (.inl rfl) _).setCell (p := ⟨v, 4, none⟩) (.inl rfl) _
  generalize (w2.setCell ⟨v, 3, none⟩ (.pointer (some ⟨pj, 0, none⟩))).setCell ⟨v, 4, none⟩ (.pointer (some ⟨rj, 0, none⟩)) = w3 at *
  have hlenc : (createdDM ring per x.dm).dur.length = x.dm.dur.length := createdDM_len ring per x.dm
  have hw0 : w.heap.size ≤ W0.heap.size := (unhide HKW).size
  refine ⟨rfl, ⟨fun k => D0 k ∨ (W0.heap.size ≤ k ∧ k < w1.heap.size), fun k => w1.heap.size ≤ k, ⟨⟨d, r, rj, dirty, _, by rw [hlenc]; exact hv3, ?_, .inl ⟨rfl, pj, rfl, ?_⟩⟩, fun k d d' => ?_, ?_, ?_⟩, fun k hk => ⟨fun d => ?_, fun d => ?_⟩⟩, ?_⟩
  · exact (unhide HJ2).keep hk3 (fun k _ d e => by have d' : w1.heap.size ≤ k := d; omega)
  · exact (((unhide HJ1).mono (fun k l d => by rcases d with d | d; (exact .inl d); (exact .inr ⟨d, l⟩))).keep (unhide HK2) (fun _ _ _ f => f)).keep hk3 (fun k _ d e => by rcases d with d | d; (rw [e] at d; exact hNDv d); omega)
  · rcases d with d | d
    · have := (unhide HST).hD k d; have d'' : w1.heap.size ≤ k := d'; omega
    · have d'' : w1.heap.size ≤ k := d'; omega
  · rintro (d | d)
    · exact hNDv d
    · omega
  · intro d; have d'' : w1.heap.size ≤ v := d; omega
  · rcases d with d | d
    · exact ((unhide HST).hD k d).1
    · omega
  · have d'' : w1.heap.size ≤ k := d; omega
  · refine (((unhide HKW).mono (T := fun k => k = v ∨ D k ∨ R k) (fun _ _ f => f.elim)).trans (unhide HK1) (fun k _ q => .inr (.inl ((unhide HST).hD k q).1))).trans ((unhide HK2).mono (T := fun k => k = v) (fun _ _ f => f.elim) |>.trans hk3 (fun _ _ e => e)) (fun k _ e => .inl e)

set_option maxRecDepth 100000 in
set_option maxHeartbeats 800000 in
theorem opened_dirty (D R : Nat → Prop) (v n : Nat) (k a b c : Int) (s : ByteArray) (vk vp : Value) (w : World) (h : VolA D R w v (.plain n)) (hdirty : w.cell? ⟨v, 5, none⟩ = some (.bool true)) :
    Calls Tryz.prog 123 #[.pointer (some ⟨v, 0, none⟩), opv k a b c s vk vp] w fun e w' => e = .returned (.bool true) ∧ QStep D R w v (.plain n) w' := by
  have HV := hide h
  obtain ⟨⟨d, r, dirty, hv, _⟩, _⟩ := h
  have hvl := lt_of_heap hv
  have hk : Keeps (fun _ => False) w (w.alloc (.cells #[.int .i64 k, .int .i64 a, .int .i64 b, .int .i64 c, .string s, vk, vp] 81)) := (Keeps.refl _ _).alloc _
  have c5 := hdirty
  have c4 := cell_of_heap (o := 4) hv
  simp at c4
  clear hv hdirty
  go_enter Tryz.func123, Tryz.ntmps123
  go_wp2
  go_ret
  exact ⟨rfl, qstep_same (unhide HV) hk⟩

/-- What opened finds where it goes on: the volume is not dirty, or has a journal. -/
def Clean (w : World) (v : Nat) : Prop := ∃ vr dirty, w.cell? ⟨v, 4, none⟩ = some (.pointer vr) ∧ w.cell? ⟨v, 5, none⟩ = some (.bool dirty) ∧ (vr.isNone && dirty) = false

set_option maxRecDepth 100000 in
set_option maxHeartbeats 800000 in
theorem opened_arg (D R : Nat → Prop) (v : Nat) (x : VM) (k a b c : Int) (s : ByteArray) (vk vp : Value) (w : World) (h : VolA D R w v x) (hcl : Clean w v)
    (hC : ∀ (d : Nat) (W : World), PDisk D W d x.dm → x.dm.ok → Calls Tryz.prog 182 #[.pointer (some ⟨d, 0, none⟩), .int .i64 b, .int .i64 c] W fun e w' => e = .returned (.tuple #[.pointer none, .int .i64 1]) ∧ w' = W)
    (hG : ∀ (W : World), Calls Tryz.prog 250 #[.int .i64 (x.dm.dur.length : Int), .int .i64 b, .int .i64 c] W fun e w' => e = .returned (.bool false) ∧ w' = W) :
    Calls Tryz.prog 123 #[.pointer (some ⟨v, 0, none⟩), opv k a b c s vk vp] w fun e w' => e = .returned (.bool true) ∧ QStep D R w v x w' := by
  have HV := hide h
  obtain ⟨D0, R0, hst⟩ := h.start k a b c s vk vp
  obtain ⟨d, r, vj, vr, dirty, hv, hd, hok, hN⟩ := hst.vol.1.disk
  have HKW := hide hst.keeps
  obtain ⟨p0, p1, p2, p3, p4, p5, p6⟩ := hst.ops _ (Keeps.refl _ _)
  have c0 := cell_of_heap (o := 0) hv
  have c2 := cell_of_heap (o := 2) hv
  have c4 := cell_of_heap (o := 4) hv
  have c5 := cell_of_heap (o := 5) hv
  simp at c0 c2 c4 c5
  have hD1 := Two.mono (T := D) hd (fun k _ q => (hst.hD k q).1)
  have hC' : ∀ W, Keeps (fun _ => False) (w.alloc (.cells #[.int .i64 k, .int .i64 a, .int .i64 b, .int .i64 c, .string s, vk, vp] 81)) W → Calls Tryz.prog 182 #[.pointer (some ⟨d, 0, none⟩), .int .i64 b, .int .i64 c] W fun e w' => e = .returned (.tuple #[.pointer none, .int .i64 1]) ∧ w' = W := fun W hW => hC d W (Two.keep hD1 hW (fun _ _ _ f => f)) hok
  have HC := hide hC'
  have HG := hide (fun W => rCreate_no (x.dm.dur.length : Int) b c W (hG W))
  obtain ⟨vr', dirty', e4, e5, e6⟩ := hcl
  have ee4 : vr' = vr := by
    have := (hst.keeps.cell (p := ⟨v, 4, none⟩) hst.hv (fun f => f)).trans e4
    rw [c4] at this; simpa using this.symm
  have ee5 : dirty' = dirty := by
    have := (hst.keeps.cell (p := ⟨v, 5, none⟩) hst.hv (fun f => f)).trans e5
    rw [c5] at this; simpa using this.symm
  subst ee4 ee5
  clear hC' hD1 e4 e5 h hst hd hv hC hG
  cases vr' with
  | none =>
    obtain rfl : dirty' = false := by simpa using e6
    clear e6
    go_enter Tryz.func123, Tryz.ntmps123
    go_wp2_with fail
    generalize hW0 : w.alloc (.cells #[.int .i64 k, .int .i64 a, .int .i64 b, .int .i64 c, .string s, vk, vp] 81) = W0 at *
    clear hW0
    go_region_held3 (fun w' => w'.cell? ⟨v, 0, none⟩ = some (.pointer (some ⟨d, 0, none⟩)) ∧ w'.cell? ⟨w.heap.size, 2, none⟩ = some (.int .i64 b) ∧ w'.cell? ⟨w.heap.size, 3, none⟩ = some (.int .i64 c)) (exact ⟨c0, p2, p3⟩) ((go_at_call 182; refine (unhide HC W0.drew ((Keeps.refl _ _).drew)).mono ?_; rintro e w1 ⟨rfl, rfl⟩))
    go_wp2
    go_region_held3 (fun w' => w'.cell? ⟨v, 2, none⟩ = some (.int .i64 (x.dm.dur.length : Int)) ∧ w'.cell? ⟨w.heap.size, 2, none⟩ = some (.int .i64 b) ∧ w'.cell? ⟨w.heap.size, 3, none⟩ = some (.int .i64 c)) (exact ⟨c2, p2, p3⟩) ((go_at_call 181; refine (unhide HG _).mono ?_; rintro e w1 ⟨rfl, rfl⟩))
    go_wp2
    go_quiet (fail)
    go_wp2
    go_ret
    exact ⟨rfl, qstep_same (unhide HV) ((unhide HKW).drewN _)⟩
  | some ar =>
    clear e6
    go_enter Tryz.func123, Tryz.ntmps123
    go_wp2_with fail
    generalize hW0 : w.alloc (.cells #[.int .i64 k, .int .i64 a, .int .i64 b, .int .i64 c, .string s, vk, vp] 81) = W0 at *
    clear hW0
    go_region_held3 (fun w' => w'.cell? ⟨v, 0, none⟩ = some (.pointer (some ⟨d, 0, none⟩)) ∧ w'.cell? ⟨w.heap.size, 2, none⟩ = some (.int .i64 b) ∧ w'.cell? ⟨w.heap.size, 3, none⟩ = some (.int .i64 c)) (exact ⟨c0, p2, p3⟩) ((go_at_call 182; refine (unhide HC W0.drew ((Keeps.refl _ _).drew)).mono ?_; rintro e w1 ⟨rfl, rfl⟩))
    go_wp2
    go_region_held3 (fun w' => w'.cell? ⟨v, 2, none⟩ = some (.int .i64 (x.dm.dur.length : Int)) ∧ w'.cell? ⟨w.heap.size, 2, none⟩ = some (.int .i64 b) ∧ w'.cell? ⟨w.heap.size, 3, none⟩ = some (.int .i64 c)) (exact ⟨c2, p2, p3⟩) ((go_at_call 181; refine (unhide HG _).mono ?_; rintro e w1 ⟨rfl, rfl⟩))
    go_wp2
    go_quiet (fail)
    go_wp2
    go_ret
    exact ⟨rfl, qstep_same (unhide HV) ((unhide HKW).drewN _)⟩

end Go.Proofs.YthbmmbgkchiajaaGreat

/- opened, where there is no such journal, and where there is one. -/
namespace Go.Proofs.YthbmmbgkchiajaaGreat
open Go.RowKit

set_option maxRecDepth 100000 in
set_option maxHeartbeats 800000 in
theorem opened_brk_plain (D R : Nat → Prop) (v n ring per : Nat) (k a : Int) (s : ByteArray) (vk vp : Value) (w : World) (h : VolA D R w v (.plain n)) (hcl : w.cell? ⟨v, 5, none⟩ = some (.bool false)) (hr : 2 ≤ ring ∧ ring ≤ 6) (hp : 2 ≤ per ∧ per ≤ 16) (hroom : ring * per + 2 ≤ n) :
    Calls Tryz.prog 123 #[.pointer (some ⟨v, 0, none⟩), opv k a ring per s vk vp] w fun e w' => e = .returned (.bool true) ∧ QStep D R w v (.plain n) w' := by
  have HV := hide h
  obtain ⟨D0, R0, hst⟩ := h.start k a ring per s vk vp
  obtain ⟨d, r, dirty, hv, hd, _, hn1, hn2⟩ := hst.vol.1
  have HKW := hide hst.keeps
  obtain ⟨p0, p1, p2, p3, p4, p5, p6⟩ := hst.ops _ (Keeps.refl _ _)
  have c0 := cell_of_heap (o := 0) hv
  have c2 := cell_of_heap (o := 2) hv
  have c4 := cell_of_heap (o := 4) hv
  have c5 := cell_of_heap (o := 5) hv
  simp at c0 c2 c4 c5
  have ee5 : dirty = false := by
    have := (hst.keeps.cell (p := ⟨v, 5, none⟩) hst.hv (fun f => f)).trans hcl
    rw [c5] at this; simpa using this
  subst ee5
  have hC4 : 4 ≤ ring * per := Nat.mul_le_mul hr.1 hp.1
  have hlen : (freshDM n).dur.length = n := by simp [freshDM]
  have HC := hide (fun W (hW : Keeps (fun _ => False) (w.alloc (.cells #[.int .i64 k, .int .i64 a, .int .i64 (ring : Int), .int .i64 (per : Int), .string s, vk, vp] 81)) W) => open_broken D0 d ring per 0 0 0 0 ByteArray.empty ByteArray.empty (freshDM n) W (Two.keep hd hW (fun _ _ _ f => f)) (freshDM_ok n hn1 hn2) (by show 0 * 72 ≤ _; omega) hr hp (by rw [hlen]; exact hroom) (fresh_read n 0 (by omega)) (fresh_read n 1 (by omega)) (by simp) (by omega) (by omega) (shape_ne (by omega) (by omega) (by omega) (by omega) (.inl (by omega)) _ _))
  have HG := hide (fun W => rCreate_yes n ring per W hr hp hroom)
  have HST := hide hst
  have HHV := hide hv
  have hvl := hst.hv
  clear h hst hd hv hcl hlen
  go_enter Tryz.func123, Tryz.ntmps123
  go_wp2_with fail
  generalize hW0 : w.alloc (.cells #[.int .i64 k, .int .i64 a, .int .i64 (ring : Int), .int .i64 (per : Int), .string s, vk, vp] 81) = W0 at *
  clear hW0
  go_region_held3 (fun w' => w'.cell? ⟨v, 0, none⟩ = some (.pointer (some ⟨d, 0, none⟩)) ∧ w'.cell? ⟨w.heap.size, 2, none⟩ = some (.int .i64 (ring : Int)) ∧ w'.cell? ⟨w.heap.size, 3, none⟩ = some (.int .i64 (per : Int))) (first | exact ⟨c0, p2, p3⟩ | exact ⟨d0, q2, q3⟩) ((go_at_call 182; refine (unhide HC W0.drew ((Keeps.refl _ _).drew)).mono ?_; rintro e w1 ⟨rfl, hk1'⟩; have hk1 := hk1'.ofDrew; have hv1 := hk1.heap (unhide HHV) (fun f => f); have d0 := cell_of_heap (o := 0) hv1; have d2 := cell_of_heap (o := 2) hv1; simp at d0 d2; obtain ⟨q0, q1, q2, q3, q4, q5, q6⟩ := (unhide HST).ops w1 (hk1.mono (fun k _ q => q.elim)); have HK1 := hide hk1; have HV1 := hide hv1; clear hk1 hk1' hv1))
  clear c0 c2 c4 c5 p0 p1 p2 p3 p4 p5 p6
  go_wp2
  go_region_held3 (fun w' => w'.cell? ⟨v, 2, none⟩ = some (.int .i64 (n : Int)) ∧ w'.cell? ⟨w.heap.size, 2, none⟩ = some (.int .i64 (ring : Int)) ∧ w'.cell? ⟨w.heap.size, 3, none⟩ = some (.int .i64 (per : Int))) (first | exact ⟨d2, q2, q3⟩ | exact ⟨f2, g2, g3⟩) ((go_at_call 181; refine (unhide HG w1.drew).mono ?_; rintro e w2 ⟨rj2, rfl, hrj, hj2, hk2'⟩; have hk2 := hk2'.ofDrew; have hv2 := hk2.heap (unhide HV1) (fun f => f); have f2 := cell_of_heap (o := 2) hv2; have f3 := cell_of_heap (o := 3) hv2; have f4 := cell_of_heap (o := 4) hv2; simp at f2 f3 f4; obtain ⟨g0, g1, g2, g3, g4, g5, g6⟩ := (unhide HST).ops w2 (((unhide HK1).trans hk2 (fun _ _ f => f)).mono (fun k _ q => q.elim)); have HK2 := hide hk2; clear hj2 hk2 hk2' hv2))
  go_wp2
  go_quiet (fail)
  go_wp2
  go_ret
  exact ⟨rfl, qstep_same (unhide HV) ((((unhide HKW).trans (unhide HK1) (fun _ _ f => f)).trans (unhide HK2) (fun _ _ f => f)).drewN _)⟩

/-- What the sectors of a journal's disk tell. -/
theorem VolS.jdisk {D R : Nat → Prop} {w : World} {v : Nat} {j : JM} {m : DM} {use : Bool} (h : VolS D R w v (.jour j m use)) : ∃ d r rj dirty vj, w.heap[v]? = some (.cells #[.pointer (some ⟨d, 0, none⟩), .pointer (some ⟨r, 0, none⟩), .int .i64 (m.dur.length : Int), .pointer vj, .pointer (some ⟨rj, 0, none⟩), .bool dirty] 187 (0, 0)) ∧ RJ R w rj j ∧ PDisk D w d m ∧ Found j m ∧ m.ok ∧ (m.puts.length + 101) * 72 ≤ 140737488355328 := by
  obtain ⟨d, r, rj, dirty, vj, h1, h2, h3⟩ := h
  rcases h3 with ⟨e, pj, rfl, e2⟩ | ⟨e, rfl, e2, e3, e4, e5, e6⟩
  · exact ⟨d, r, rj, dirty, _, h1, h2, e2.1.disk, e2.2.1.found, e2.2.2, e2.2.1.fewPuts⟩
  · exact ⟨d, r, rj, dirty, _, h1, h2, e2, e3, e5, by rw [e4]; show (0 + 101) * 72 ≤ _; omega⟩

set_option maxRecDepth 100000 in
set_option maxHeartbeats 800000 in
theorem opened_brk_jour (D R : Nat → Prop) (v ring per : Nat) (j : JM) (m : DM) (use : Bool) (k a : Int) (s : ByteArray) (vk vp : Value) (w : World) (h : VolA D R w v (.jour j m use)) (hr : 2 ≤ ring ∧ ring ≤ 6) (hp : 2 ≤ per ∧ per ≤ 16) (hroom : ring * per + 2 ≤ m.dur.length) (hne : ¬ (j.ring = ring ∧ j.per = per)) :
    Calls Tryz.prog 123 #[.pointer (some ⟨v, 0, none⟩), opv k a ring per s vk vp] w fun e w' => e = .returned (.bool true) ∧ QStep D R w v (.jour j m use) w' := by
  have HV := hide h
  obtain ⟨D0, R0, hst⟩ := h.start k a ring per s vk vp
  obtain ⟨d, r, rj, dirty, vj, hv, hrj0, hd, hF, hok, hN⟩ := hst.vol.1.jdisk
  have HKW := hide hst.keeps
  obtain ⟨p0, p1, p2, p3, p4, p5, p6⟩ := hst.ops _ (Keeps.refl _ _)
  have c0 := cell_of_heap (o := 0) hv
  have c2 := cell_of_heap (o := 2) hv
  have c4 := cell_of_heap (o := 4) hv
  have c5 := cell_of_heap (o := 5) hv
  simp at c0 c2 c4 c5
  have hjr := hF.ok.ring
  have hjp := hF.ok.per
  have hjl := hF.ok.low
  have hjf := hF.ok.few
  have HC := hide (fun W (hW : Keeps (fun _ => False) (w.alloc (.cells #[.int .i64 k, .int .i64 a, .int .i64 (ring : Int), .int .i64 (per : Int), .string s, vk, vp] 81)) W) => open_broken D0 d ring per j.ring j.per j.low j.epoch nameB j.note m W (Two.keep hd hW (fun _ _ _ f => f)) hok (seven_le0 _ _ hN) hr hp hroom hF.shape hF.state hF.ok.note (by omega) (by omega) (shape_ne (by omega) (by omega) (by omega) (by omega) (by rcases Nat.decEq j.ring ring with e | e; (exact .inl e); (exact .inr (fun e' => hne ⟨e, e'⟩))) _ _))
  have HG := hide (fun W => rCreate_yes m.dur.length ring per W hr hp hroom)
  have HST := hide hst
  have HHV := hide hv
  have HRJ := hide hrj0
  have hvl := hst.hv
  have hnn : ((j.ring : Int) != (ring : Int)) = true ∨ (((j.ring : Int) != (ring : Int)) = false ∧ ((j.per : Int) != (per : Int)) = true) := by
    rcases Nat.decEq j.ring ring with e | e
    · exact .inl (by rw [bne_iff_ne]; omega)
    · exact .inr ⟨by rw [bne_eq_false_iff_eq]; omega, by rw [bne_iff_ne]; intro e'; exact hne ⟨e, by omega⟩⟩
  clear h hst hd hv hF hrj0
  go_enter Tryz.func123, Tryz.ntmps123
  go_wp2_with fail
  generalize hW0 : w.alloc (.cells #[.int .i64 k, .int .i64 a, .int .i64 (ring : Int), .int .i64 (per : Int), .string s, vk, vp] 81) = W0 at *
  clear hW0
  go_region_held3 (fun w' => w'.cell? ⟨v, 0, none⟩ = some (.pointer (some ⟨d, 0, none⟩)) ∧ w'.cell? ⟨w.heap.size, 2, none⟩ = some (.int .i64 (ring : Int)) ∧ w'.cell? ⟨w.heap.size, 3, none⟩ = some (.int .i64 (per : Int))) (first | exact ⟨c0, p2, p3⟩ | exact ⟨d0, q2, q3⟩) ((go_at_call 182; refine (unhide HC W0.drew ((Keeps.refl _ _).drew)).mono ?_; rintro e w1 ⟨rfl, hk1'⟩; have hk1 := hk1'.ofDrew; have hv1 := hk1.heap (unhide HHV) (fun f => f); have d0 := cell_of_heap (o := 0) hv1; have d2 := cell_of_heap (o := 2) hv1; simp at d0 d2; obtain ⟨q0, q1, q2, q3, q4, q5, q6⟩ := (unhide HST).ops w1 (hk1.mono (fun k _ q => q.elim)); have HK1 := hide hk1; have HV1 := hide hv1; clear hk1 hk1' hv1))
  clear c0 c2 c4 c5 p0 p1 p2 p3 p4 p5 p6
  go_wp2
  go_region_held3 (fun w' => w'.cell? ⟨v, 2, none⟩ = some (.int .i64 (m.dur.length : Int)) ∧ w'.cell? ⟨w.heap.size, 2, none⟩ = some (.int .i64 (ring : Int)) ∧ w'.cell? ⟨w.heap.size, 3, none⟩ = some (.int .i64 (per : Int))) (first | exact ⟨d2, q2, q3⟩ | exact ⟨f2, g2, g3⟩) ((go_at_call 181; refine (unhide HG w1.drew).mono ?_; rintro e w2 ⟨rj2, rfl, hrj, hj2, hk2'⟩; have hk2 := hk2'.ofDrew; have hv2 := hk2.heap (unhide HV1) (fun f => f); have f2 := cell_of_heap (o := 2) hv2; have f3 := cell_of_heap (o := 3) hv2; have f4 := cell_of_heap (o := 4) hv2; simp at f2 f3 f4; obtain ⟨g0, g1, g2, g3, g4, g5, g6⟩ := (unhide HST).ops w2 (((unhide HK1).trans hk2 (fun _ _ f => f)).mono (fun k _ q => q.elim)); have HK2 := hide hk2; clear hj2 hk2 hk2' hv2))
  obtain ⟨al, cl, _, _, y0, y1, y2, y3, y4, y5, y6⟩ := ((unhide HRJ).keep ((unhide HK1).trans (unhide HK2) (fun _ _ f => f)) (fun _ _ _ f => f)).cells
  rename_i hx1 hx2; clear hx1 hx2
  rcases hnn with hn1 | ⟨hn1, hn2⟩
  · go_wp2
    go_quiet (fail)
    go_wp2
    go_ret
    exact ⟨rfl, qstep_same (unhide HV) ((((unhide HKW).trans (unhide HK1) (fun _ _ f => f)).trans (unhide HK2) (fun _ _ f => f)).drewN _)⟩
  · go_wp2
    go_quiet (fail)
    go_wp2
    go_ret
    exact ⟨rfl, qstep_same (unhide HV) ((((unhide HKW).trans (unhide HK1) (fun _ _ f => f)).trans (unhide HK2) (fun _ _ f => f)).drewN _)⟩

set_option maxRecDepth 100000 in
set_option maxHeartbeats 800000 in
theorem opened_yes (D R : Nat → Prop) (v : Nat) (j : JM) (m : DM) (use : Bool) (k a : Int) (s : ByteArray) (vk vp : Value) (w : World) (h : VolA D R w v (.jour j m use)) (hy : m.syncs < 9223372036854775807) (he : j.epoch + 1 < 2305843009213693952) :
    Calls Tryz.prog 123 #[.pointer (some ⟨v, 0, none⟩), opv k a j.ring j.per s vk vp] w fun e w' => e = .returned (.bool true) ∧ QStep D R w v (.jour { j with safe := j.L.length, epoch := j.epoch + 1 } (openedDM j m) true) w' := by
  have HV := hide h
  obtain ⟨D0, R0, hst⟩ := h.start k a j.ring j.per s vk vp
  obtain ⟨d, r, rj, dirty, vj, hv, hrj0, hd, hF, hok, hN⟩ := hst.vol.1.jdisk
  have HKW := hide hst.keeps
  obtain ⟨p0, p1, p2, p3, p4, p5, p6⟩ := hst.ops _ (Keeps.refl _ _)
  have c0 := cell_of_heap (o := 0) hv
  have c2 := cell_of_heap (o := 2) hv
  have c4 := cell_of_heap (o := 4) hv
  have c5 := cell_of_heap (o := 5) hv
  simp at c0 c2 c4 c5
  have hjr := hF.ok.ring
  have hjp := hF.ok.per
  have HC := hide (fun W (hW : Keeps (fun _ => False) (w.alloc (.cells #[.int .i64 k, .int .i64 a, .int .i64 (j.ring : Int), .int .i64 (j.per : Int), .string s, vk, vp] 81)) W) => use_open D0 d j m W (Two.keep hd hW (fun _ _ _ f => f)) hok hN hy hF he)
  have HG := hide (fun W => rCreate_yes m.dur.length j.ring j.per W hjr hjp hF.room)
  have HST := hide hst
  have HHV := hide hv
  have HRJ := hide hrj0
  have hvl := hst.hv
  have hszw := hst.size
  have hNDv : ¬ D0 v := hst.vol.2.2.1
  have hNRv : ¬ R0 v := hst.vol.2.2.2
  have hDR := hst.vol.2.1
  have n1 : ((j.ring : Int) != (j.ring : Int)) = false := by simp
  have n2 : ((j.per : Int) != (j.per : Int)) = false := by simp
  clear h hst hd hv hF hrj0
  go_enter Tryz.func123, Tryz.ntmps123
  go_wp2_with fail
  generalize hW0 : w.alloc (.cells #[.int .i64 k, .int .i64 a, .int .i64 (j.ring : Int), .int .i64 (j.per : Int), .string s, vk, vp] 81) = W0 at *
  clear hW0
  go_region_held3 (fun w' => w'.cell? ⟨v, 0, none⟩ = some (.pointer (some ⟨d, 0, none⟩)) ∧ w'.cell? ⟨w.heap.size, 2, none⟩ = some (.int .i64 (j.ring : Int)) ∧ w'.cell? ⟨w.heap.size, 3, none⟩ = some (.int .i64 (j.per : Int))) (first | exact ⟨c0, p2, p3⟩ | exact ⟨d0, q2, q3⟩) ((go_at_call 182; refine (unhide HC W0.drew ((Keeps.refl _ _).drew)).mono ?_; rintro e w1 ⟨pj, rfl, hpj, hj1, hk1'⟩; have hk1 := hk1'.ofDrew; have hv1 := hk1.heap (unhide HHV) hNDv; have d0 := cell_of_heap (o := 0) hv1; have d2 := cell_of_heap (o := 2) hv1; simp at d0 d2; obtain ⟨q0, q1, q2, q3, q4, q5, q6⟩ := (unhide HST).ops w1 (hk1.mono (fun k _ q => .inr (.inl q))); have HJ1 := hide hj1; have HK1 := hide hk1; have HV1 := hide hv1; have hs1 := hk1.size; clear hj1 hk1 hk1' hv1))
  clear c0 c2 c4 c5 p0 p1 p2 p3 p4 p5 p6
  go_wp2
  go_region_held3 (fun w' => w'.cell? ⟨v, 2, none⟩ = some (.int .i64 (m.dur.length : Int)) ∧ w'.cell? ⟨w.heap.size, 2, none⟩ = some (.int .i64 (j.ring : Int)) ∧ w'.cell? ⟨w.heap.size, 3, none⟩ = some (.int .i64 (j.per : Int))) (first | exact ⟨d2, q2, q3⟩ | exact ⟨f2, g2, g3⟩) ((go_at_call 181; refine (unhide HG w1.drew).mono ?_; rintro e w2 ⟨rj2, rfl, hrj, hj2, hk2'⟩; have hk2 := hk2'.ofDrew; have hv2 := hk2.heap (unhide HV1) (fun f => f); have f2 := cell_of_heap (o := 2) hv2; have f3 := cell_of_heap (o := 3) hv2; have f4 := cell_of_heap (o := 4) hv2; simp at f2 f3 f4; obtain ⟨g0, g1, g2, g3, g4, g5, g6⟩ := (unhide HST).ops w2 (((unhide HK1).mono (T := fun k => k = v ∨ D0 k ∨ R0 k) (fun k _ q => .inr (.inl q))).trans hk2 (fun _ _ f => f.elim)); have HK2 := hide hk2; have HV2 := hide hv2; have hs2 := hk2.size; clear hj2 hk2 hk2' hv2))
  have hrj2 := ((unhide HRJ).keep ((unhide HK1).trans ((unhide HK2).mono (T := D0) (fun _ _ f => f.elim)) (fun _ _ q => q)) (fun k _ q d => hDR k d q))
  obtain ⟨al, cl, _, _, y0, y1, y2, y3, y4, y5, y6⟩ := hrj2.cells
  rename_i hx1 hx2; clear hx1 hx2
  have HRJ2 := hide hrj2
  clear hrj2
  go_wp2
  go_quiet (fail)
  have hkq : Keeps (fun _ => False) w2 (w2.drewN nq) := (Keeps.refl _ w2).drewN nq
  generalize w2.drewN nq = w3 at *
  have hv3 := hkq.heap (unhide HV2) (fun f => f)
  have i3 := cell_of_heap (o := 3) hv3
  have i4 := cell_of_heap (o := 4) hv3
  simp at i3 i4
  have z3 := frozen_of_heap (o := 3) hv3
  have HK3 := hide hkq
  have HV3 := hide hv3
  have hs3 := hkq.size
  clear hkq hv3 y0 y1 y2 y3 y4 y5 y6
  go_wp2_with fail
  have hv4 := heap_setCell_same (o := 3) (unhide HV3) (.pointer (some ⟨pj, 0, none⟩))
  have hk4 : Keeps (fun k => k = v) w3 (w3.setCell ⟨v, 3, none⟩ (.pointer (some ⟨pj, 0, none⟩))) := (Keeps.refl (fun k => k = v) w3).setCell (p := ⟨v, 3, none⟩) (.inl rfl) _
  generalize w3.setCell ⟨v, 3, none⟩ (.pointer (some ⟨pj, 0, none⟩)) = w4 at *
  have hrj4 := ((unhide HRJ2).keep (unhide HK3) (fun _ _ _ f => f)).keep hk4 (fun k _ q e => hNRv (by rw [← e]; exact q))
  have HRJ4 := hide hrj4
  have HV4 := hide hv4
  have HK4 := hide hk4
  clear hrj4 hv4 hk4
  go_at_call 183
  refine (rjAgain_any R0 rj j w4 (unhide HRJ4) (by omega)).mono ?_
  rintro e w5 ⟨rfl, hrj5, hk5⟩
  have HRJ5 := hide hrj5
  have HK5 := hide hk5
  clear hrj5 hk5
  go_wp2
  go_ret
  have hw0 : w.heap.size ≤ W0.heap.size := (unhide HKW).size
  have hds : W0.drew.heap.size = W0.heap.size := rfl
  have hlenc : (openedDM j m).dur.length = m.dur.length := openedDM_len j m
  have hv5 := (unhide HK5).heap (unhide HV4) hNRv
  refine ⟨rfl, ⟨fun k => D0 k ∨ W0.heap.size ≤ k, R0, ⟨⟨d, r, rj, dirty, _, by rw [hlenc]; exact hv5, unhide HRJ5, .inl ⟨rfl, pj, rfl, ?_⟩⟩, fun k d d' => ?_, ?_, hNRv⟩, fun k hk => ⟨fun d => ?_, fun d => ((unhide HST).hR k d).1⟩⟩, ?_⟩
  · exact ((((unhide HJ1).keep (unhide HK2) (fun _ _ _ f => f)).keep (unhide HK3) (fun _ _ _ f => f)).keep (unhide HK4) (fun k _ d e => by rcases d with d | d; (rw [e] at d; exact hNDv d); omega)).keep (unhide HK5) (fun k _ d d' => by rcases d with d | d; (exact hDR k d d'); (have := (unhide HST).hR k d'; omega))
  · rcases d with d | d
    · exact hDR k d d'
    · have := (unhide HST).hR k d'; omega
  · rintro (d | d)
    · exact hNDv d
    · omega
  · rcases d with d | d
    · exact ((unhide HST).hD k d).1
    · omega
  · exact (((((unhide HKW).mono (T := fun k => k = v ∨ D k ∨ R k) (fun _ _ f => f.elim)).trans (unhide HK1) (fun k _ q => .inr (.inl ((unhide HST).hD k q).1))).trans ((unhide HK2).trans (unhide HK3) (fun _ _ f => f)) (fun _ _ f => f.elim)).trans (unhide HK4) (fun k _ e => .inl e)).trans (unhide HK5) (fun k _ q => .inr (.inr ((unhide HST).hR k q).1))

end Go.Proofs.YthbmmbgkchiajaaGreat
