
/- Create and Open. -/
import Derived.Test.YthbmmbgkchiajaaGreatJStored
namespace Go.Proofs.YthbmmbgkchiajaaGreat
set_option linter.unusedSimpArgs false
set_option linter.unusedVariables false
open Go.RowKit

attribute [local go_sem ↓] mulI_eq

set_option maxRecDepth 100000 in
set_option maxHeartbeats 400000 in
theorem fits_bad (pd : Nat) (ring per : Int) (w : World) (h : ¬ (2 ≤ ring ∧ ring ≤ 6 ∧ 2 ≤ per ∧ per ≤ 16)) :
    Calls Tryz.prog 219 #[.pointer (some ⟨pd, 0, none⟩), .int .i64 ring, .int .i64 per] w fun e w' => e = .returned (.bool false) ∧ w' = w := by
  by_cases h1 : ring < 2
  · have g1 : decide (ring < 2) = true := by simpa using h1
    clear h
    go_enter Tryz.func219, Tryz.ntmps219
    go_wp2
    go_ret
    exact ⟨rfl, rfl⟩
  · have g1 : decide (ring < 2) = false := by simpa using h1
    by_cases h2 : 6 < ring
    · have g2 : decide (6 < ring) = true := by simpa using h2
      clear h
      go_enter Tryz.func219, Tryz.ntmps219
      go_wp2
      go_ret
      exact ⟨rfl, rfl⟩
    · have g2 : decide (6 < ring) = false := by simpa using h2
      by_cases h3 : per < 2
      · have g3 : decide (per < 2) = true := by simpa using h3
        clear h
        go_enter Tryz.func219, Tryz.ntmps219
        go_wp2
        go_ret
        exact ⟨rfl, rfl⟩
      · have g3 : decide (per < 2) = false := by simpa using h3
        have h4 : 16 < per := by omega
        have g4 : decide (16 < per) = true := by simpa using h4
        clear h
        go_enter Tryz.func219, Tryz.ntmps219
        go_wp2
        go_ret
        exact ⟨rfl, rfl⟩

set_option maxRecDepth 100000 in
set_option maxHeartbeats 400000 in
theorem fits_small (S : Nat → Prop) (pd ring per : Nat) (m : DM) (w : World) (hD : PDisk S w pd m) (hm : m.ok) (hr : 2 ≤ ring ∧ ring ≤ 6) (hp : 2 ≤ per ∧ per ≤ 16) (hroom : m.dur.length < ring * per + 2) :
    Calls Tryz.prog 219 #[.pointer (some ⟨pd, 0, none⟩), .int .i64 (ring : Int), .int .i64 (per : Int)] w fun e w' => e = .returned (.bool false) ∧ w' = w := by
  have hC : 4 ≤ ring * per ∧ ring * per ≤ 96 := ⟨Nat.mul_le_mul hr.1 hp.1, Nat.mul_le_mul hr.2 hp.2⟩
  obtain ⟨C, HQ⟩ : ∃ q : Nat, Hid (q = ring * per) := ⟨_, hide rfl⟩
  have hmul := fun W => run_mulI W ring per (by omega)
  rw [← unhide HQ] at hmul hC hroom
  have HD := hide hD
  have HM := hide hm
  clear hD hm
  go_enter Tryz.func219, Tryz.ntmps219
  go_wp2_with fail
  go_at_call 184
  refine (dRead_no S pd m _ _ (unhide HD) (unhide HM) (.inr (by omega))).mono ?_
  rintro e w1 ⟨rfl, rfl⟩
  go_wp2
  go_ret
  exact ⟨rfl, rfl⟩

set_option maxRecDepth 100000 in
set_option maxHeartbeats 400000 in
theorem fits_yes (S : Nat → Prop) (pd ring per : Nat) (m : DM) (w : World) (hD : PDisk S w pd m) (hm : m.ok) (hN : m.puts.length * 72 ≤ 140737488355328) (hr : 2 ≤ ring ∧ ring ≤ 6) (hp : 2 ≤ per ∧ per ≤ 16) (hroom : ring * per + 2 ≤ m.dur.length) :
    Calls Tryz.prog 219 #[.pointer (some ⟨pd, 0, none⟩), .int .i64 (ring : Int), .int .i64 (per : Int)] w fun e w' => e = .returned (.bool true) ∧ Keeps (fun _ => False) w w' := by
  have hC : 4 ≤ ring * per ∧ ring * per ≤ 96 := ⟨Nat.mul_le_mul hr.1 hp.1, Nat.mul_le_mul hr.2 hp.2⟩
  obtain ⟨C, HQ⟩ : ∃ q : Nat, Hid (q = ring * per) := ⟨_, hide rfl⟩
  have hmul := fun W => run_mulI W ring per (by omega)
  rw [← unhide HQ] at hmul hC hroom
  have HD := hide hD
  have HM := hide hm
  have HI : Hid (2 + (C : Int) - 1 = ((C + 1 : Nat) : Int)) := hide (by omega)
  clear hD hm
  go_enter Tryz.func219, Tryz.ntmps219
  go_wp2_with fail
  go_at_call 184
  rw [unhide HI]
  refine (dRead_yes S pd m (C + 1) _ (unhide HD) (unhide HM) (by omega) hN).mono ?_
  rintro e w1 ⟨g, rfl, _, _, hk⟩
  have HK := hide hk
  clear hk
  go_wp2
  go_ret
  exact ⟨rfl, unhide HK⟩

theorem name_cells : bcells nameB = [.int .u8 112, .int .u8 97, .int .u8 99, .int .u8 116, .int .u8 32, .int .u8 106, .int .u8 111, .int .u8 117, .int .u8 114, .int .u8 110, .int .u8 97, .int .u8 108] := rfl

def cvBytes (x : Value) : Sem Value := convert 138 138 x
theorem cvBytes_eq (x : Value) : convert 138 138 x = cvBytes x := rfl
theorem run_cvBytes (W : World) (g n c : Nat) (cs : Array Value) (t : TypeId) (hg : W.heap[g]? = some (.cells cs t (0, 0))) : ∃ W', (cvBytes (.slice (some ⟨g, 0, none⟩) n c)).run Tryz.prog W = .ok (.slice (some ⟨g, 0, none⟩) n c) W' ∧ Hid (W'.heap[g]? = some (.cells cs t (cs.size, cs.size + 1)) ∧ Keeps (fun k => k = g) W W') := by
  have hsh : W.shape? g = some (t, cs.size) := by unfold World.shape?; rw [hg]
  refine ⟨W.freeze ⟨g, cs.size, none⟩ 1, ?_, hide ⟨?_, ?_⟩⟩
  · unfold cvBytes
    simp [convert, run_underlying Tryz.underlying138, run_underlying Tryz.underlying5, markStringish, hsh]
  · unfold World.freeze
    rw [if_neg (by decide)]
    simp [Array.getElem?_modify, hg]
  · unfold World.freeze
    rw [if_neg (by decide)]
    exact ⟨rfl, rfl, rfl, by simp, fun k _ hn => by simp [Array.getElem?_modify, Ne.symm hn]⟩

attribute [local go_sem ↓] cvBytes_eq

set_option maxRecDepth 100000 in
set_option maxHeartbeats 400000 in
theorem shape_any (ring per : Nat) (w : World) (hr : ring ≤ 6) (hp : per ≤ 16) :
    Calls Tryz.prog 220 #[.int .i64 (ring : Int), .int .i64 (per : Int)] w fun e w' => ∃ g, e = .returned (.slice (some ⟨g, 0, none⟩) 64 64) ∧ w.heap.size ≤ g ∧ w'.heap[g]? = some (.cells (bcells (packB ring per nameB)).toArray 5 (0, 0)) ∧ Keeps (fun _ => False) w w' := by
  obtain ⟨X, HX⟩ : ∃ X : Array Value, Hid (X = #[.int .u8 112, .int .u8 97, .int .u8 99, .int .u8 116, .int .u8 32, .int .u8 106, .int .u8 111, .int .u8 117, .int .u8 114, .int .u8 110, .int .u8 97, .int .u8 108]) := ⟨_, hide rfl⟩
  obtain ⟨W1, hcv, HW1⟩ := run_cvBytes (w.alloc (.cells X 5)) w.heap.size 12 12 X 5 (heap_alloc_last w _)
  obtain ⟨q1, q2⟩ := unhide HW1
  have hB : Bytes (fun _ => True) W1 (.slice (some ⟨w.heap.size, 0, none⟩) 12 12) nameB := Bytes.row q1 trivial rfl (Nat.le_refl _) (fun j hj => by rw [Nat.zero_add, name_cells, unhide HX]; simp)
  have hk0 : Keeps (fun _ => False) w W1 := ((((Keeps.refl (fun _ => False) w).alloc (.cells X 5)).mono (T := fun k => k = w.heap.size) (fun _ _ f => f.elim)).trans q2 (fun _ _ e => e)).mono (fun k hk e => by omega)
  have HB := hide hB
  have HK0 := hide hk0
  clear hB hk0 q1 q2 HW1
  rw [unhide HX] at hcv
  go_enter Tryz.func220, Tryz.ntmps220
  go_wp2_with fail
  go_at_call 258
  refine (pack_any (fun _ => True) ring per _ nameB _ (by omega) (by omega) (by decide) (unhide HB)).mono ?_
  rintro e w1 ⟨rfl, hg, hk⟩
  have HG := hide hg
  have HK := hide hk
  clear hg hk
  go_wp2
  go_ret
  exact ⟨W1.heap.size, rfl, (unhide HK0).size, unhide HG, (unhide HK0).trans (unhide HK) (fun _ _ f => f)⟩

end Go.Proofs.YthbmmbgkchiajaaGreat
