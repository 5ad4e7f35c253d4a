
/- The book of lists that came out: what it holds; that all lists still read as they were written. -/
import Derived.Test.YthbmmbgkchiajaaGreatBools
namespace Go.Proofs.YthbmmbgkchiajaaGreat
open Go.RowKit

def markOf (q : Nat) : Value := .int .u8 (200 + (q : Int) % 50)

/-- The i-th list: nil, or it lies in S, its block belongs to group i / 4; the cells of which C says so hold the group's mark. -/
def Ent (S : Nat → Prop) (o : Nat → Nat) (C : Nat → Nat → Prop) (w : World) (i : Nat) (v : Value) : Prop :=
  ∃ ao len cap, v = .slice ao len cap ∧ len ≤ cap ∧ cap ≤ 9223372036854775807 ∧ (len = 0 ∨ ∃ g off cur e, ao = some ⟨g, off, none⟩ ∧ S g ∧ o g = i / 4 ∧ w.heap[g]? = some (.cells cur e (0, 0)) ∧ off + len ≤ cur.size ∧ ∀ j, j < len → C i j → cur[off + j]? = some (markOf (i / 4)))

def BookC (S : Nat → Prop) (o : Nat → Nat) (C : Nat → Nat → Prop) (w : World) (ls : List Value) : Prop := ∀ (i : Nat) (v : Value), ls[i]? = some v → Ent S o C w i v

theorem Ent.keep {S T : Nat → Prop} {o : Nat → Nat} {C : Nat → Nat → Prop} {w w' : World} {i : Nat} {v : Value} (h : Ent S o C w i v) (hk : Keeps T w w') (hd : ∀ k, k < w.heap.size → S k → ¬ T k) : Ent S o C w' i v := by
  obtain ⟨ao, len, cap, h1, h2, h3, h4⟩ := h
  refine ⟨ao, len, cap, h1, h2, h3, ?_⟩
  rcases h4 with h4 | ⟨g, off, cur, e, a1, a2, a3, a4, a5, a6⟩
  · exact .inl h4
  · exact .inr ⟨g, off, cur, e, a1, a2, a3, hk.heap a4 (hd g (lt_of_heap a4) a2), a5, a6⟩
theorem BookC.keep {S T : Nat → Prop} {o : Nat → Nat} {C : Nat → Nat → Prop} {w w' : World} {ls : List Value} (h : BookC S o C w ls) (hk : Keeps T w w') (hd : ∀ k, k < w.heap.size → S k → ¬ T k) : BookC S o C w' ls :=
  fun i v hv => (h i v hv).keep hk hd
theorem Ent.weak {S : Nat → Prop} {o : Nat → Nat} {C D : Nat → Nat → Prop} {w : World} {i : Nat} {v : Value} (h : Ent S o C w i v) (hc : ∀ j, D i j → C i j) : Ent S o D w i v := by
  obtain ⟨ao, len, cap, h1, h2, h3, h4⟩ := h
  refine ⟨ao, len, cap, h1, h2, h3, ?_⟩
  rcases h4 with h4 | ⟨g, off, cur, e, a1, a2, a3, a4, a5, a6⟩
  · exact .inl h4
  · exact .inr ⟨g, off, cur, e, a1, a2, a3, a4, a5, fun j hj hd => a6 j hj (hc j hd)⟩

/-- The book in memory: four fields from offset f of block p on; the lists of bytes are ls, the others are empty. -/
def BookAt (T : Nat → Prop) (w : World) (p : Nat) (ls : List Value) : Prop :=
  ∃ vb, w.cell? ⟨p, 3, none⟩ = some vb ∧ w.cell? ⟨p, 4, none⟩ = some (.slice none 0 0) ∧ w.cell? ⟨p, 5, none⟩ = some (.slice none 0 0) ∧ w.cell? ⟨p, 6, none⟩ = some (.slice none 0 0) ∧ Own T w 138 1 vb ls.length ls

set_option maxRecDepth 100000 in
set_option maxHeartbeats 3200000 in
theorem looks_any (S T : Nat → Prop) (o : Nat → Nat) (p : Nat) (ls : List Value) (w : World) (hB : BookAt T w p ls) (hE : BookC S o (fun _ _ => True) w ls) (hn : ls.length ≤ 9223372036854775807) :
    Calls Tryz.prog 40 #[.pointer (some ⟨p, 3, none⟩)] w fun e w' => e = .returned (.bool true) ∧ ∃ nq, w' = w.drewN nq := by
  obtain ⟨vb, c3, c4, c5, c6, hrow⟩ := hB
  obtain ⟨ab, cb, rfl, hcb⟩ := hrow.len
  have hval : ∀ i, i < ls.length → ∃ gb ao len cap, ab = some ⟨gb, 0, none⟩ ∧ w.cell? ⟨gb, i, none⟩ = some (.slice ao len cap) ∧ len ≤ cap ∧ cap ≤ 9223372036854775807 ∧ ∀ j, j < len → ∃ g off, ao = some ⟨g, off, none⟩ ∧ w.cell? ⟨g, off + j, none⟩ = some (.int .u8 (200 + (i : Int) / 4 % 50)) := by
    intro i hi
    obtain ⟨gb, cap, hv, _, _, _, hcell, _⟩ := hrow.open (by omega)
    cases hv
    obtain ⟨ao, len, cp, e1, e2, e3, e4⟩ := hE i ls[i] (List.getElem?_eq_getElem hi)
    refine ⟨gb, ao, len, cp, rfl, by rw [← e1]; exact hcell i _ (List.getElem?_eq_getElem hi), e2, e3, fun j hj => ?_⟩
    rcases e4 with e4 | ⟨g, off, cur, e, a1, a2, a3, a4, a5, a6⟩
    · omega
    · refine ⟨g, off, a1, ?_⟩
      rw [cell_of_heap a4, a6 j hj trivial]
      simp [markOf]
  have HV := hide hval
  clear hval hrow hE
  go_enter Tryz.func40, Tryz.ntmps40
  go_wp2
  go_loopw [3] (fun i wr => ∃ k : Nat, k ≤ ls.length ∧ i = .int .i64 k ∧ ∃ nq, wr = w.drewN nq) (fun i _ => ls.length - (intOf i).toNat)
  case atStart => exact ⟨0, Nat.zero_le _, rfl, 0, rfl⟩
  case round =>
    obtain ⟨k, hk, rfl, nq, rfl⟩ := hrel
    by_cases hlt : k < ls.length
    · obtain ⟨gb, ao, len, cap, rfl, hci, hlc, hcm, hce⟩ := unhide HV k hlt
      have HE := hide hce
      clear hce
      go_wp2
      go_loopw [4] (fun i wr => ∃ j : Nat, j ≤ len ∧ i = .int .i64 j ∧ ∃ nq, wr = w.drewN nq) (fun i _ => len - (intOf i).toNat)
      case atStart => exact ⟨0, Nat.zero_le _, rfl, nq, rfl⟩
      case round =>
        obtain ⟨j, hj, rfl, nq', hw⟩ := hrel
        have c3w : wr.cell? ⟨p, 3, none⟩ = some (.slice (some ⟨gb, 0, none⟩) ls.length cb) := by rw [hw]; exact c3
        have hciw : wr.cell? ⟨gb, k, none⟩ = some (.slice ao len cap) := by rw [hw]; exact hci
        have HW := hide hw
        clear hw
        by_cases hjl : j < len
        · obtain ⟨g, off, rfl, hcj⟩ := unhide HE j hjl
          have hcjw : wr.cell? ⟨g, off + j, none⟩ = some (.int .u8 (200 + (k : Int) / 4 % 50)) := by rw [unhide HW]; exact hcj
          have b1 : (0 : Int) ≤ (k : Int) := Int.natCast_nonneg _
          have b2 : (k : Int) < (ls.length : Int) := by omega
          have b3 : (0 : Int) ≤ (j : Int) := Int.natCast_nonneg _
          have b4 : (j : Int) < (len : Int) := by omega
          go_wp2
          go_quiet ((go_at_call 81; exact Calls.quiet_of_same (markByte_any k _ (by omega))))
          go_wp2
          go_roundw
          case rel => exact ⟨j + 1, by omega, by go_num, _, by rw [unhide HW, World.drewN_drewN]⟩
          case measure => simp [intOf]; omega
        · go_wp2
          go_roundw
          case rel => exact ⟨k + 1, by omega, by go_num, _, unhide HW⟩
          case measure => simp [intOf]; omega
    · go_wp2
      go_loopw [5] (fun i wr => i = .int .i64 0 ∧ ∃ nq, wr = w.drewN nq) (fun _ _ => 0)
      case atStart => exact ⟨rfl, _, rfl⟩
      case round =>
        obtain ⟨rfl, nq, rfl⟩ := hrel
        go_wp2
        go_loopw [7] (fun i wr => i = .int .i64 0 ∧ ∃ nq, wr = w.drewN nq) (fun _ _ => 0)
        case atStart => exact ⟨rfl, _, rfl⟩
        case round =>
          obtain ⟨rfl, nq, rfl⟩ := hrel
          go_wp2
          go_loopw [9] (fun i wr => i = .int .i64 0 ∧ ∃ nq, wr = w.drewN nq) (fun _ _ => 0)
          case atStart => exact ⟨rfl, _, rfl⟩
          case round =>
            obtain ⟨rfl, nq, rfl⟩ := hrel
            go_wp2
            go_ret
            exact ⟨rfl, _, rfl⟩

end Go.Proofs.YthbmmbgkchiajaaGreat
