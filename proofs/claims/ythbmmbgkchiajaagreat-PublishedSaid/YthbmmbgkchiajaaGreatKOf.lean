
/- A set out of a list. -/
import Derived.Test.YthbmmbgkchiajaaGreatKTake

namespace Go.Proofs.YthbmmbgkchiajaaGreat
set_option linter.unusedSimpArgs false
set_option linter.unusedVariables false
open Go.RowKit

def orS (x y : Value) : Sem Value := binOp .or 87 x y
theorem orS_eq (x y : Value) : binOp .or 87 x y = orS x y := rfl
theorem or_bits : ∀ s : Fin 16, ∀ i : Fin 4, (BitVec.ofNat 64 s.val ||| BitVec.ofNat 64 (2 ^ i.val)).toNat = s.val ||| 2 ^ i.val := by decide
theorem or_lt : ∀ s : Fin 16, ∀ i : Fin 4, s.val ||| 2 ^ i.val < 16 := by decide
theorem run_orS (W : World) (s i : Nat) (hs : s < 16) (hi : i < 4) : (orS (.int .i64 (s : Int)) (.int .i64 ((2 ^ i : Nat) : Int))).run Tryz.prog W = .ok (.int .i64 ((s ||| 2 ^ i : Nat) : Int)) W := by
  unfold orS binOp Op.intBits
  simp only [ne_eq, not_true_eq_false, if_false]
  show (pure (Value.int .i64 (IntKind.i64.wrap _)) : Sem Value).run _ _ = _
  have e : (BitVec.ofInt IntKind.i64.bits ((s : Nat) : Int) ||| BitVec.ofInt IntKind.i64.bits ((2 ^ i : Nat) : Int)).toNat = s ||| 2 ^ i := by
    show (BitVec.ofInt 64 _ ||| BitVec.ofInt 64 _).toNat = _
    rw [BitVec.ofInt_natCast, BitVec.ofInt_natCast]
    exact or_bits ⟨s, hs⟩ ⟨i, hi⟩
  have hw : s ||| 2 ^ i < 16 := or_lt ⟨s, hs⟩ ⟨i, hi⟩
  rw [e, IntWalk.i64_in _ ⟨by omega, by omega⟩]
  rfl
attribute [local go_sem ↓] shlS_eq orS_eq

def ofList (nodes : Nat) : List Int → Nat → Option Nat
  | [], s => some s
  | i :: l, s => if i < 0 ∨ (nodes : Int) ≤ i ∨ s.testBit i.toNat = true then none else ofList nodes l (s ||| 2 ^ i.toNat)
def ofRes : Option Nat → Value
  | none => .tuple #[.int .i64 0, .bool false]
  | some s => .tuple #[.int .i64 (s : Int), .bool (decide (s ≠ 0))]

/-- A list of numbers in memory. -/
def IntsAt (w : World) (v : Value) (l : List Int) : Prop := (v = .slice none 0 0 ∧ l = []) ∨ ∃ g o cap, v = .slice (some ⟨g, o, none⟩) l.length cap ∧ l.length ≤ 4611686018427387904 ∧ ∀ (j : Nat) (x : Int), l[j]? = some x → w.cell? ⟨g, o + j, none⟩ = some (.int .i64 x)

set_option maxRecDepth 100000 in
set_option maxHeartbeats 400000 in
theorem of_nil (nodes : Nat) (w : World) :
    Calls Tryz.prog 45 #[.slice none 0 0, .int .i64 (nodes : Int)] w fun e w' => e = .returned (.tuple #[.int .i64 0, .bool false]) ∧ w' = w := by
  go_enter Tryz.func45, Tryz.ntmps45
  go_wp2
  go_loopw [6, 11] (fun s i wr => s = .int .i64 0 ∧ i = .int .i64 0 ∧ wr = w) (fun _ _ _ => 0)
  case atStart => exact ⟨rfl, rfl, rfl⟩
  case round =>
    obtain ⟨rfl, rfl, hwr⟩ := hrel
    subst hwr
    go_wp2
    go_ret2
    exact ⟨rfl, rfl⟩

set_option maxRecDepth 100000 in
set_option maxHeartbeats 1000000 in
theorem of_some (g o cap nodes : Nat) (l : List Int) (r : Option Nat) (w : World) (hn : nodes ≤ 4) (hl : l.length ≤ 4611686018427387904) (h : ∀ (j : Nat) (x : Int), l[j]? = some x → w.cell? ⟨g, o + j, none⟩ = some (.int .i64 x)) (hr : ofList nodes l 0 = r) :
    Calls Tryz.prog 45 #[.slice (some ⟨g, o, none⟩) l.length cap, .int .i64 (nodes : Int)] w fun e w' => e = .returned (ofRes r) ∧ w' = w := by
  have HR0 : Hid (ofList nodes (l.drop 0) 0 = r) := hide hr
  have HC := hide h
  clear h hr
  go_enter Tryz.func45, Tryz.ntmps45
  go_wp2
  go_loopw [6, 11] (fun s i wr => ∃ j x : Nat, j ≤ l.length ∧ x < 16 ∧ s = .int .i64 (x : Int) ∧ i = .int .i64 (j : Int) ∧ wr = w ∧ Hid (ofList nodes (l.drop j) x = r)) (fun _ i _ => l.length - (intOf i).toNat)
  case atStart => exact ⟨0, 0, by omega, by omega, rfl, rfl, rfl, HR0⟩
  case round =>
    obtain ⟨j, x, hj, hx, rfl, rfl, hwr, HR⟩ := hrel
    subst hwr
    by_cases hlt : j < l.length
    · obtain ⟨y, hy⟩ : ∃ y, l[j]? = some y := ⟨_, List.getElem?_eq_getElem hlt⟩
      have hcell := unhide HC j y hy
      have hdrop : l.drop j = y :: l.drop (j + 1) := by
        rw [List.drop_eq_getElem_cons hlt]
        congr 1
        have := List.getElem?_eq_getElem hlt
        rw [hy] at this
        exact (Option.some.inj this).symm
      have hstep := unhide HR
      rw [hdrop] at hstep
      simp only [ofList] at hstep
      have h0 : (0 : Int) ≤ (j : Int) := Int.natCast_nonneg _
      have hlt' : (j : Int) < (l.length : Int) := by omega
      by_cases hy0 : y < 0
      · rw [if_pos (.inl hy0)] at hstep
        have HS := hide hstep
        clear hstep hdrop HR HC hy
        go_wp2
        go_ret2
        exact ⟨by rw [← unhide HS]; rfl, rfl⟩
      · by_cases hyn : (nodes : Int) ≤ y
        · rw [if_pos (.inr (.inl hyn))] at hstep
          have HS := hide hstep
          clear hstep hdrop HR HC hy
          go_wp2
          go_ret2
          exact ⟨by rw [← unhide HS]; rfl, rfl⟩
        · obtain ⟨k, rfl⟩ : ∃ k : Nat, y = (k : Int) := ⟨y.toNat, by omega⟩
          have hk : k < 4 := by omega
          rw [Int.toNat_natCast] at hstep
          have hhas := fun W => sHas_any x k W hx hk
          cases hb : x.testBit k with
          | true =>
            rw [hb] at hhas
            rw [if_pos (.inr (.inr hb))] at hstep
            have HS := hide hstep
            clear hstep hdrop HR HC hy hb
            go_wp2_with (go_at_call 86; refine (hhas _).mono ?_; rintro e w1 ⟨rfl, rfl⟩)
            go_ret2
            exact ⟨by rw [← unhide HS]; rfl, rfl⟩
          | false =>
            rw [hb] at hhas
            rw [if_neg (by rw [hb]; simp; omega)] at hstep
            have HS := hide hstep
            have hs1 := run_shlS wr k hk
            have hs2 := run_orS wr x k hx hk
            have hlt2 : x ||| 2 ^ k < 16 := or_lt ⟨x, hx⟩ ⟨k, hk⟩
            rw [show ((2 ^ k : Nat) : Int) = (2 : Int) ^ k by rw [Int.natCast_pow]; rfl] at hs1 hs2
            generalize x ||| 2 ^ k = z at *
            clear hstep hdrop HR hy hb
            go_wp2_with (go_at_call 86; refine (hhas _).mono ?_; rintro e w1 ⟨rfl, rfl⟩)
            go_roundw
            case rel => exact ⟨j + 1, z, by omega, hlt2, by first | rfl | trivial, by go_num, by first | rfl | trivial, HS⟩
            case measure => simp [intOf]; omega
    · have hstep := unhide HR
      rw [List.drop_eq_nil_of_le (by omega)] at hstep
      simp only [ofList] at hstep
      have HS := hide hstep
      have hge : ¬ (j : Int) < (l.length : Int) := by omega
      have hd : (!((x : Int) == 0)) = decide (x ≠ 0) := by
        by_cases h : x = 0
        · subst h; rfl
        · have : ((x : Int) == 0) = false := by rw [beq_eq_false_iff_ne]; omega
          rw [this]; simp [h]
      clear hstep HR HC
      go_wp2
      go_ret2
      refine ⟨?_, rfl⟩
      rw [← unhide HS]
      show Ending.returned (.tuple #[.int .i64 (x : Int), .bool ((x : Int) != 0)]) = .returned (.tuple #[.int .i64 (x : Int), .bool (decide (x ≠ 0))])
      rw [show ((x : Int) != 0) = decide (x ≠ 0) from hd]

theorem of_any (nodes : Nat) (v : Value) (l : List Int) (w : World) (hn : nodes ≤ 4) (h : IntsAt w v l) :
    Calls Tryz.prog 45 #[v, .int .i64 (nodes : Int)] w fun e w' => e = .returned (ofRes (ofList nodes l 0)) ∧ w' = w := by
  rcases h with ⟨rfl, rfl⟩ | ⟨g, o, cap, rfl, hl, hc⟩
  · exact of_nil nodes w
  · exact of_some g o cap nodes l _ w hn hl hc rfl

end Go.Proofs.YthbmmbgkchiajaaGreat

/- A transaction is begun in a cluster. -/
namespace Go.Proofs.YthbmmbgkchiajaaGreat
set_option linter.unusedSimpArgs false
set_option linter.unusedVariables false
open Go.RowKit

theorem ofList_lt (nodes : Nat) (hn : nodes ≤ 4) : ∀ (l : List Int) (s r : Nat), s < 16 → ofList nodes l s = some r → r < 16
  | [], s, r, hs, h => by simp only [ofList, Option.some.injEq] at h; omega
  | i :: l, s, r, hs, h => by
    simp only [ofList] at h
    split at h
    · cases h
    · rename_i hc
      have h1 : i.toNat < 4 := by
        have h2 : ¬ (i < 0) := fun e => hc (.inl e)
        have h3 : ¬ ((nodes : Int) ≤ i) := fun e => hc (.inr (.inl e))
        omega
      exact ofList_lt nodes hn l _ r (or_lt ⟨s, hs⟩ ⟨i.toNat, h1⟩) h
theorem IntsAt.keep {w w' : World} {v : Value} {l : List Int} (h : IntsAt w v l) (hk : Keeps (fun _ => False) w w') : IntsAt w' v l := by
  rcases h with h | ⟨g, o, cap, h1, h2, h3⟩
  · exact .inl h
  · exact .inr ⟨g, o, cap, h1, h2, fun j x hx => hk.cell' (h3 j x hx) (fun f => f)⟩
theorem NPost.still {o : Nat → Tag} {w w' w'' : World} {p : Nat} {n : NM} {B : Nat} (h : NPost o w p n B w') (hk : Keeps (fun _ => False) w' w'') : NPost o w p n B w'' := by
  obtain ⟨⟨o', e, g⟩, k⟩ := h
  exact ⟨⟨o', e, g.keep hk (fun _ _ => rfl) (fun _ _ _ f => f)⟩, k.trans hk (fun _ _ f => f.elim)⟩
theorem keeps_set3' (W : World) (b : Nat) (v0 v1 v2 : Value) : Keeps (fun k => k = b) W (((W.setCell ⟨b, 0, none⟩ v0).setCell ⟨b, 1, none⟩ v1).setCell ⟨b, 2, none⟩ v2) :=
  (((Keeps.refl (fun k => k = b) W).setCell (p := ⟨b, 0, none⟩) (.inl rfl) _).setCell (p := ⟨b, 1, none⟩) (.inl rfl) _).setCell (p := ⟨b, 2, none⟩) (.inl rfl) _

theorem acted2 (c : Nat → CTag) (pk B B' i p : Nat) (K : KM) (n n' : NM) (ve : Value) (l : List Ev) (W w2 : World) (h : KAt c W pk K B) (hn : K.ns[i]? = some n) (hp : K.ps[i]? = some p) (hB : B ≤ B') (hB' : B' + l.length + 1000 ≤ 1099511627776) (hl : l.length ≤ 1000) (hres : NPost (nodeTags c i) W p n' B' w2) (hev : EvsOut (nodeTags c i) W w2 ve l) :
    Calls Tryz.prog 49 #[.pointer (some ⟨pk, 0, none⟩), ve] w2 fun e w' => e = .returned (.tuple #[]) ∧ (∀ (bb : Nat) (o : Obj), W.heap.size ≤ bb → w2.heap[bb]? = some o → w'.heap[bb]? = some o) ∧ KPost c W pk { K with ns := K.ns.set i n', net := K.net ++ sentOf l, trace := K.trace ++ l } (B' + l.length) w' := by
  obtain ⟨vr, vn, vt, g⟩ := h
  obtain ⟨⟨c', f1, f2, g1⟩, k1⟩ := g.nodePost' hn hp hB (by omega) hres
  refine (gather_all c' pk B' ve _ l w2 g1 hl hev.1 (fun k hk => ?_) hB').mono ?_
  · have : ∃ j t, c' k = .node j t := by
      by_cases hlt : k < W.heap.size
      · have h1 := hev.2 k hk hlt
        rw [f1 k hlt]
        unfold nodeTags at h1
        cases hck : c k with
        | node j t => exact ⟨j, t, rfl⟩
        | other => rw [hck] at h1; exact absurd rfl h1
        | self => rw [hck] at h1; exact absurd rfl h1
        | row => rw [hck] at h1; exact absurd rfl h1
        | net => rw [hck] at h1; exact absurd rfl h1
        | trace => rw [hck] at h1; exact absurd rfl h1
      · obtain ⟨t, e⟩ := f2 k (by omega)
        exact ⟨i, t, e⟩
    obtain ⟨j, t, e⟩ := this
    rw [e]
    simp
  · rintro e w' ⟨rfl, hf⟩
    exact ⟨rfl, fun bb o hb ho => hf.2.heap ho (fun e => by obtain ⟨t, e'⟩ := f2 bb hb; rw [e'] at e; simp at e), KPost.next' f1 k1 (fun k ⟨t, e⟩ => by rw [e]; simp) hf.post⟩

set_option maxRecDepth 100000 in
set_option maxHeartbeats 1000000 in
theorem begin_ok (c : Nat → CTag) (pk B i p s : Nat) (K : KM) (l : List Int) (v : Value) (n : NM) (k : Nat → NM) (w : World) (h : KAt c w pk K B) (hn : K.ns[i]? = some n) (hp : K.ps[i]? = some p) (hup : n.up = true) (hz : n.fuse = none) (hfl : n.isFull = false) (hv : IntsAt w v l) (hs : ofList K.ps.length l 0 = some s) (hs0 : s ≠ 0)
    (hk : ∀ b, n.begin ⟨n.id, n.inc, n.begun + 1⟩ s b = .ok (k b)) (hl : ∀ b, (k b).evs.length ≤ 1000) (hB : B + 9 + 1000 + 1000 ≤ 1099511627776) :
    Calls Tryz.prog 18 #[.pointer (some ⟨pk, 0, none⟩), .int .i64 (i : Int), v] w fun e w' => e = .returned (.tuple #[txv ⟨n.id, n.inc, n.begun + 1⟩, .int .i64 0]) ∧ ∃ b, KPost c w pk { ns := K.ns.set i { (k b).tidy with evs := [] }, ps := K.ps, net := K.net ++ sentOf (k b).evs, trace := K.trace ++ (k b).evs } (B + 9 + (k b).evs.length) w' := by
  have h4 : K.ps.length ≤ 4 := by obtain ⟨_, _, _, g⟩ := h; exact g.len ▸ g.small.2.2
  have hs16 : s < 16 := ofList_lt _ h4 l 0 s (by omega) hs
  obtain ⟨W, hW, hkW, hA, hWs⟩ : ∃ W, w.alloc (.cells #[.int .i64 0, .int .i64 0, .int .i64 0] 38) = W ∧ Keeps (fun _ => False) w W ∧ W.heap[w.heap.size]? = some (.cells #[.int .i64 0, .int .i64 0, .int .i64 0] 38 (0, 0)) ∧ W.heap.size = w.heap.size + 1 := ⟨_, rfl, (Keeps.refl _ w).alloc _, heap_alloc_new _ _, by simp⟩
  have hW1 := h.begin hkW
  have hof := of_any K.ps.length v l W h4 (hv.keep hkW)
  rw [hs] at hof
  have hof' : Calls Tryz.prog 45 #[v, .int .i64 (K.ps.length : Int)] W fun e w' => e = .returned (.tuple #[.int .i64 (s : Int), .bool true]) ∧ w' = W := by
    refine hof.mono ?_
    rintro e w' ⟨rfl, h2⟩
    exact ⟨by simp [ofRes, hs0], h2⟩
  have hfu := findUp_ok _ pk B i p n K W hW1 hp hn hup
  obtain ⟨vr, vn, vt, gW⟩ := hW1
  have c0 := cell_of_heap (o := 0) gW.self
  simp at c0
  obtain ⟨gr, cap, e⟩ : ∃ b z, vr = .slice b K.ps.length z := by
    rcases gW.rowAt with ⟨e, e0⟩ | ⟨gr, cap, e, _⟩
    · exact ⟨none, 0, by rw [e, e0]; rfl⟩
    · exact ⟨_, _, e⟩
  subst e
  have hNW := gW.nodes i n p hn hp
  have hfull := full_any _ p B n W hNW hup
  rw [hfl] at hfull
  obtain ⟨t, hte⟩ : ∃ t : Tx, t = ⟨n.id, n.inc, n.begun + 1⟩ := ⟨_, rfl⟩
  have HT : Hid (∀ w1, Keeps (fun _ => False) W w1 → ∃ b, Calls Tryz.prog 48 #[.pointer (some ⟨p, 0, none⟩), .int .i64 (s : Int)] w1 fun e w2 => ∃ ve, e = .returned (.tuple #[txv t, ve, .int .i64 0]) ∧ W.heap.size ≤ w2.heap.size ∧ w2.heap[w.heap.size]? = some (.cells #[.int .i64 0, .int .i64 0, .int .i64 0] 38 (0, 0)) ∧ ∀ w3, Keeps (fun _ => False) w2 w3 → Calls Tryz.prog 49 #[.pointer (some ⟨pk, 0, none⟩), ve] w3 fun e w4 => e = .returned (.tuple #[]) ∧ w4.heap[w.heap.size]? = some (.cells #[.int .i64 0, .int .i64 0, .int .i64 0] 38 (0, 0)) ∧ (∀ (bb : Nat) (o : Obj), w2.heap.size ≤ bb → w3.heap[bb]? = some o → w4.heap[bb]? = some o) ∧ KPost c w pk { ns := K.ns.set i { (k b).tidy with evs := [] }, ps := K.ps, net := K.net ++ sentOf (k b).evs, trace := K.trace ++ (k b).evs } (B + 9 + (k b).evs.length) (((w4.setCell ⟨w.heap.size, 0, none⟩ (.int .i64 (t.coord : Int))).setCell ⟨w.heap.size, 1, none⟩ (.int .i64 (t.inc : Int))).setCell ⟨w.heap.size, 2, none⟩ (.int .i64 (t.seq : Int)))) := hide (fun w1 hk1 => by
    have g1 := gW.keep (c' := ctagsUp c w .other) hk1 (fun _ _ => rfl) (fun _ _ _ f => f)
    have hN1 := g1.nodes i n p hn hp
    refine ⟨w1.heap.size + 7, ?_⟩
    refine (nodeBegin_any _ p B s n (k (w1.heap.size + 7)) w1 hN1 hup hz hs16 (hk _) (by omega)).mono ?_
    rintro e w2 ⟨ve, rfl, r1, r2⟩
    have hwl : w1.heap.size ≤ w2.heap.size := r1.2.size
    have hoth : ctagsUp c w .other w.heap.size = .other := ctagsUp_new (Nat.le_refl _)
    have hno : nodeTags (ctagsUp c w .other) i w.heap.size = .other := by unfold nodeTags; rw [hoth]
    have hA1 := hk1.heap hA (fun f => f)
    have hA2 := r1.frame hA1 hno
    refine ⟨ve, by rw [hte], by have := hk1.size; omega, hA2, fun w3 hk3 => ?_⟩
    refine (acted2 (ctagsUp c w .other) pk B (B + 9) i p K n _ ve (k (w1.heap.size + 7)).evs w1 w3 ⟨_, _, _, g1⟩ hn hp (by omega) (by have := hl (w1.heap.size + 7); omega) (hl _) (r1.still hk3) (r2.keep hk3 (fun _ _ f => f))).mono ?_
    rintro e w4 ⟨rfl, q1, q2⟩
    refine ⟨rfl, ?_, fun bb o hb ho => q1 bb o (by omega) ho, ?_⟩
    · exact q2.2.heap hA1 (fun e => e hoth)
    · have hks := keeps_set3' w4 w.heap.size (.int .i64 (t.coord : Int)) (.int .i64 (t.inc : Int)) (.int .i64 (t.seq : Int))
      obtain ⟨⟨c4, f4, ⟨x1, x2, x3, g4⟩⟩, k4⟩ := q2
      have hsz := hk1.size
      have ho4 : c4 w.heap.size = .other := (f4 _ (by omega)).trans hoth
      have hkw1 : Keeps (fun k => c k ≠ .other) w w1 := (hkW.trans hk1 (fun _ _ f => f)).mono (fun _ _ f => f.elim)
      have hkw4 : Keeps (fun k => c k ≠ .other) w w4 := hkw1.trans k4 (fun k hk' e => by rw [ctagsUp_old hk'] at e; exact e)
      exact ⟨⟨c4, fun k hk' => (f4 k (by omega)).trans (ctagsUp_old hk'), x1, x2, x3, g4.keep hks (fun _ _ => rfl) (fun k _ e e' => by subst e'; exact e ho4)⟩, hkw4.trans hks (fun k hk' e => by omega)⟩)
  rw [← hte]
  clear gW hNW hte hk hl hfl hup hz hn hp h hv hs hof
  unfold txv at *
  obtain ⟨a1, a2, a3⟩ := t
  simp only [] at *
  go_enter Tryz.func18, Tryz.ntmps18
  go_wp2_with fail
  go_at_call 45
  refine hof'.mono ?_
  rintro e wx ⟨rfl, hw⟩
  subst hw
  go_wp2_with fail
  go_at_call 46
  refine hfu.mono ?_
  rintro e wy ⟨rfl, hw⟩
  subst hw
  go_wp2_with fail
  go_at_call 47
  refine hfull.mono ?_
  rintro e w1 ⟨rfl, hk1⟩
  obtain ⟨b, hbg⟩ := unhide HT w1 hk1
  clear HT hfull hfu hof'
  go_wp2_with fail
  go_at_call 48
  refine hbg.mono ?_
  rintro e w2 ⟨ve, rfl, hsz2, hA2, hg2⟩
  clear hbg hk1
  go_wp2_with fail
  generalize hX : World.alloc w2 _ = w3
  have hk3 : Keeps (fun _ => False) w2 w3 := by rw [← hX]; exact (Keeps.refl _ w2).alloc _
  have hD : w3.heap[w2.heap.size]? = some (.cells #[.int .i64 (a1 : Int), .int .i64 (a2 : Int), .int .i64 (a3 : Int)] 38 (0, 0)) := by
    rw [← hX]; exact heap_alloc_new _ _
  have hg3 := hg2 w3 hk3
  clear hX hg2
  go_at_call 49
  refine hg3.mono ?_
  rintro e w4 ⟨rfl, hA4, hD4, hKP⟩
  have hD5 := hD4 _ _ (Nat.le_refl _) hD
  have HK := hide hKP
  clear hg3 hKP hD4 hD hA2 hk3
  have u0 := cell_of_heap (o := 0) hA4
  have u1 := cell_of_heap (o := 1) hA4
  have u2 := cell_of_heap (o := 2) hA4
  have z0 := frozen_of_heap (o := 0) hA4
  have z1 := frozen_of_heap (o := 1) hA4
  have z2 := frozen_of_heap (o := 2) hA4
  have d0 := cell_of_heap (o := 0) hD5
  have d1 := cell_of_heap (o := 1) hD5
  have d2 := cell_of_heap (o := 2) hD5
  simp at u0 u1 u2 d0 d1 d2
  have hne : ¬ w.heap.size = w2.heap.size := by omega
  have hne' : ¬ w2.heap.size = w.heap.size := by omega
  clear hA4 hD5
  go_wp2_with fail
  refine ⟨rfl, .tuple #[.agg #[.int .i64 (a1 : Int), .int .i64 (a2 : Int), .int .i64 (a3 : Int)], .int .i64 0], ?_, rfl, b, unhide HK⟩
  simp [results, Tryz.results18, go_sem, u0, u1, u2]

end Go.Proofs.YthbmmbgkchiajaaGreat
