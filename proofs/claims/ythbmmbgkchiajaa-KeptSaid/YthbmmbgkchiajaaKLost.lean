
/- lost and stands. -/
import Derived.Test.YthbmmbgkchiajaaKNotes2
namespace Go.Proofs.Ythbmmbgkchiajaa
open Go.RowKit

theorem runOf_eq : ∀ (bs : List Bool) (N i : Nat), i ≤ N → (∀ k, k < i → bs.getD k false = true) → (i = N ∨ bs.getD i false = false) → i = runOf bs N
  | _, 0, i, h, _, _ => by unfold runOf; omega
  | [], N + 1, i, h, h1, h2 => by
    unfold runOf
    rcases Nat.eq_zero_or_pos i with e | e
    · exact e
    · have := h1 0 e; simp at this
  | b :: bs, N + 1, i, h, h1, h2 => by
    unfold runOf
    cases i with
    | zero =>
      rcases h2 with h2 | h2
      · omega
      · simp at h2; rw [h2]; rfl
    | succ i =>
      have hb : b = true := by simpa using h1 0 (by omega)
      rw [if_pos hb, ← runOf_eq bs N i (by omega) (fun k hk => by simpa using h1 (k + 1) (by omega)) (by rcases h2 with h2 | h2; (exact .inl (by omega)); (exact .inr (by simpa using h2)))]

theorem Own.shrink {S : Nat → Prop} {w : World} {e N cl n : Nat} {al : Option Addr} {xs : List Value} (h : Own S w e 1 (.slice al N cl) N xs) (hn : n ≤ N) : Own S w e 1 (.slice al n cl) n (xs.take n) := by
  obtain ⟨⟨hl, hv⟩, hS⟩ := h
  refine ⟨⟨by rw [List.length_take, hl]; omega, ?_⟩, ?_⟩
  · rcases hv with ⟨h0, h1⟩ | ⟨g, cap, cur, h0, h1, h2, h3, h4, h5, h6⟩
    · cases h0
      have : n = 0 := by omega
      subst this
      exact .inl ⟨rfl, rfl⟩
    · cases h0
      refine .inr ⟨g, _, cur, rfl, h1, h2, by omega, h4, h5, ?_⟩
      rw [← h6, List.take_take]
      congr 1; omega
  · intro k hk
    cases al with
    | none => simp [Value.ownBlock] at hk
    | some a => exact hS k (by simpa [Value.ownBlock] using hk)

theorem lost_end {T : Nat → Prop} {w : World} {ps low safe cl k : Nat} {L : List ByteArray} {note : ByteArray} {al : Option Addr} {bs : List Bool} (h1 : w.heap[ps]? = some (.cells #[.slice al L.length cl, .int .i64 (low : Int), .int .i64 (safe : Int), .string note] 34 (0, 0))) (h2 : T ps) (h3 : Own (fun k => T k ∧ k ≠ ps) w 9 1 (.slice al L.length cl) L.length (L.map Value.string))
    (hr : ∀ q, q < k → bs.getD q false = true) (hk : k ≤ L.length - safe) (he : k = L.length - safe ∨ bs.getD k false = false) (hs : safe ≤ L.length) :
    ShelfAt T (w.setCell ⟨ps, 0, none⟩ (.slice al (safe + k) cl)) ps (L.take (safe + runOf bs (L.length - safe))) low safe note ∧ Keeps T w (w.setCell ⟨ps, 0, none⟩ (.slice al (safe + k) cl)) := by
  rw [← runOf_eq bs (L.length - safe) k hk hr he]
  have hks : Keeps (fun k => k = ps) w (w.setCell ⟨ps, 0, none⟩ (.slice al (safe + k) cl)) := (Keeps.refl (fun k => k = ps) w).setCell (p := ⟨ps, 0, none⟩) (.inl rfl) _
  refine ⟨⟨_, heap_setCell_same h1 _, h2, ?_⟩, hks.mono (fun k _ e => by rw [e]; exact h2)⟩
  have e1 : (L.take (safe + k)).length = safe + k := by rw [List.length_take]; omega
  rw [e1, List.map_take]
  exact (h3.shrink (by omega)).keep hks (fun k _ d e => d.2 e)

set_option maxRecDepth 100000 in
set_option maxHeartbeats 400000 in
theorem lost_any (T : Nat → Prop) (ps low safe kc : Nat) (L : List ByteArray) (note : ByteArray) (ao : Option Addr) (bs : List Bool) (w : World) (hSh : ShelfAt T w ps L low safe note) (hK : Keep T w ao bs) (hsafe : safe ≤ L.length) (hL : L.length < 4611686018427387904) (hbs : bs.length ≤ 140737488351232) (_hkc : bs.length ≤ kc) :
    Calls Try.prog 10 #[.pointer (some ⟨ps, 0, none⟩), .slice ao bs.length kc] w fun e w' => e = .returned (.tuple #[]) ∧ ShelfAt T w' ps (L.take (safe + runOf bs (L.length - safe))) low safe note ∧ Keeps T w w' := by
  obtain ⟨vl, g1, g2, g3⟩ := hSh
  obtain ⟨al, cl, rfl, hcl⟩ := g3.len
  have p0 := cell_of_heap (o := 0) g1
  have p2 := cell_of_heap (o := 2) g1
  have hfz := frozen_of_heap (o := 0) g1
  simp at p0 p2
  have HG := hide g1
  have HO := hide g3
  have HK := hide hK
  have HT := hide g2
  have hal : al = none → cl = 0 := by
    intro e
    rcases g3.1.2 with ⟨h0, _⟩ | ⟨g, cap, cur, h0, _⟩
    · simp only [Value.slice.injEq] at h0; exact h0.2.2
    · simp only [Value.slice.injEq] at h0; rw [e] at h0; exact absurd h0.1 (by simp)
  have HAL := hide hal
  clear g1 g2 g3 hK hal
  go_enter Try.func10, Try.ntmps10
  go_wp2
  go_loop [4] (fun i => ∃ k : Nat, k ≤ L.length - safe ∧ i = .int .i64 ((safe + k : Nat) : Int) ∧ Hid (∀ q, q < k → bs.getD q false = true)) (fun i => L.length - (intOf i).toNat)
  case atStart => exact ⟨0, Nat.zero_le _, rfl, hide (fun q hq => by omega)⟩
  case round =>
    obtain ⟨k, hk, rfl, HR⟩ := hrel
    by_cases h1 : k < L.length - safe
    · have t1 : decide (((safe + k : Nat) : Int) < (L.length : Int)) = true := by simp; omega
      by_cases h2 : k < bs.length
      · obtain ⟨gk, ok, rfl, _, _, hcell⟩ := unhide HK k h2
        have e0 : ((safe + k : Nat) : Int) - (safe : Int) = (k : Int) := by omega
        have t2 : decide ((k : Int) < (bs.length : Int)) = true := by simp; omega
        cases hb : bs.getD k false with
        | true =>
          rw [hb] at hcell
          have HB := hide hb
          clear hb
          go_wp2
          go_round
          case rel =>
            refine ⟨k + 1, by omega, by go_num, hide (fun q hq => ?_)⟩
            by_cases e : q = k
            · rw [e]; exact unhide HB
            · exact unhide HR q (by omega)
          case measure => simp [intOf]; omega
        | false =>
          rw [hb] at hcell
          have HB := hide hb
          clear hb
          go_wp2
          go_end0
          exact ⟨rfl, lost_end (unhide HG) (unhide HT) (unhide HO) (unhide HR) hk (.inr (unhide HB)) hsafe⟩
      · have t2 : decide (((safe + k : Nat) : Int) - (safe : Int) < (bs.length : Int)) = false := by simp; omega
        have HB : Hid (bs.getD k false = false) := hide (by rw [List.getD_eq_getElem?_getD, List.getElem?_eq_none (by omega)]; rfl)
        go_wp2
        go_end0
        exact ⟨rfl, lost_end (unhide HG) (unhide HT) (unhide HO) (unhide HR) hk (.inr (unhide HB)) hsafe⟩
    · have t1 : decide (((safe + k : Nat) : Int) < (L.length : Int)) = false := by simp; omega
      have HB : Hid (k = L.length - safe) := hide (by omega)
      go_wp2
      go_end0
      exact ⟨rfl, lost_end (unhide HG) (unhide HT) (unhide HO) (unhide HR) hk (.inl (unhide HB)) hsafe⟩

end Go.Proofs.Ythbmmbgkchiajaa
