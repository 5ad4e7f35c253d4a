
/- The document's journal. -/
import Derived.Test.YthbmmbgkchiajaaGreatJUse
import Derived.Test.YthbmmbgkchiajaaGreatDSync
namespace Go.Proofs.YthbmmbgkchiajaaGreat
open Go.RowKit

theorem runOf_eq : ∀ (bs : List Bool) (N i : Nat), i ≤ N → (∀ k, k < i → bs.getD k false = true) → (i = N ∨ bs.getD i false = false) → i = runOf bs N
  | _, 0, i, h, _, _ => by unfold runOf; omega
  | [], N + 1, i, h, h1, h2 => by
    unfold runOf
    rcases Nat.eq_zero_or_pos i with e | e
    · exact e
    · have := h1 0 e; simp at this
  | b :: bs, N + 1, i, h, h1, h2 => by
    unfold runOf
    cases i with
    | zero =>
      rcases h2 with h2 | h2
      · omega
      · simp at h2; rw [h2]; rfl
    | succ i =>
      have hb : b = true := by simpa using h1 0 (by omega)
      rw [if_pos hb, ← runOf_eq bs N i (by omega) (fun k hk => by simpa using h1 (k + 1) (by omega)) (by rcases h2 with h2 | h2; (exact .inl (by omega)); (exact .inr (by simpa using h2)))]

theorem Own.shrink {S : Nat → Prop} {w : World} {e N cl n : Nat} {al : Option Addr} {xs : List Value} (h : Own S w e 1 (.slice al N cl) N xs) (hn : n ≤ N) : Own S w e 1 (.slice al n cl) n (xs.take n) := by
  obtain ⟨⟨hl, hv⟩, hS⟩ := h
  refine ⟨⟨by rw [List.length_take, hl]; omega, ?_⟩, ?_⟩
  · rcases hv with ⟨h0, h1⟩ | ⟨g, cap, cur, h0, h1, h2, h3, h4, h5, h6⟩
    · cases h0
      have : n = 0 := by omega
      subst this
      exact .inl ⟨rfl, rfl⟩
    · cases h0
      refine .inr ⟨g, _, cur, rfl, h1, h2, by omega, h4, h5, ?_⟩
      rw [← h6, List.take_take]
      congr 1; omega
  · intro k hk
    cases al with
    | none => simp [Value.ownBlock] at hk
    | some a => exact hS k (by simpa [Value.ownBlock] using hk)

/-- A quotient of two numbers, by a name of its own. -/
def quoI (x y : Value) : Sem Value := binOp .quo 3 x y
theorem quoI_eq (x y : Value) : binOp .quo 3 x y = quoI x y := rfl
theorem run_quoI (W : World) (a b : Nat) (ha : a ≤ 9223372036854775807) (hb : 1 ≤ b) : (quoI (.int .i64 (a : Int)) (.int .i64 (b : Int))).run Tryz.prog W = .ok (.int .i64 ((a / b : Nat) : Int)) W := by
  unfold quoI
  have e : (a : Int).tdiv (b : Int) = ((a / b : Nat) : Int) := by rw [Int.tdiv_eq_ediv_of_nonneg (by omega)]; rfl
  have e2 := Nat.div_le_self a b
  simp only [binOp_quo, Op.intDiv]
  rw [if_neg (by omega), e, IntWalk.i64_in _ ⟨by generalize a / b = z at *; omega, by generalize a / b = z at *; omega⟩]
  rfl


/-- The document's journal in memory: its struct is block p, its list lies in S. -/
def RJ (S : Nat → Prop) (w : World) (p : Nat) (j : JM) : Prop :=
  ∃ vl, w.heap[p]? = some (.cells #[.int .i64 (j.ring : Int), .int .i64 (j.per : Int), vl, .int .i64 (j.low : Int), .int .i64 (j.safe : Int), .int .i64 (j.epoch : Int), .string j.note] 240 (0, 0)) ∧ S p ∧ Own (fun k => S k ∧ k ≠ p) w 9 1 vl j.L.length (j.L.map Value.string)

theorem RJ.mono {S T : Nat → Prop} {w : World} {p : Nat} {j : JM} (h : RJ S w p j) (hs : ∀ k, k < w.heap.size → S k → T k) : RJ T w p j := by
  obtain ⟨vl, h1, h2, h3⟩ := h
  exact ⟨vl, h1, hs p (lt_of_heap h1) h2, h3.mono (fun k l d => ⟨hs k l d.1, d.2⟩)⟩
theorem RJ.keep {S T : Nat → Prop} {w w' : World} {p : Nat} {j : JM} (h : RJ S w p j) (hk : Keeps T w w') (hd : ∀ k, k < w.heap.size → S k → ¬ T k) : RJ S w' p j := by
  obtain ⟨vl, h1, h2, h3⟩ := h
  exact ⟨vl, hk.heap h1 (hd p (lt_of_heap h1) h2), h2, h3.keep hk (fun k l d => hd k l d.1)⟩
theorem RJ.lt {S : Nat → Prop} {w : World} {p : Nat} {j : JM} (h : RJ S w p j) : S p ∧ p < w.heap.size := by
  obtain ⟨vl, h1, h2, h3⟩ := h
  exact ⟨h2, lt_of_heap h1⟩
/-- Its fields. -/
theorem RJ.cells {S : Nat → Prop} {w : World} {p : Nat} {j : JM} (h : RJ S w p j) : ∃ al cl, w.heap[p]? = some (.cells #[.int .i64 (j.ring : Int), .int .i64 (j.per : Int), .slice al j.L.length cl, .int .i64 (j.low : Int), .int .i64 (j.safe : Int), .int .i64 (j.epoch : Int), .string j.note] 240 (0, 0)) ∧ Own (fun k => S k ∧ k ≠ p) w 9 1 (.slice al j.L.length cl) j.L.length (j.L.map Value.string) ∧
    w.cell? ⟨p, 0, none⟩ = some (.int .i64 (j.ring : Int)) ∧ w.cell? ⟨p, 1, none⟩ = some (.int .i64 (j.per : Int)) ∧ w.cell? ⟨p, 2, none⟩ = some (.slice al j.L.length cl) ∧ w.cell? ⟨p, 3, none⟩ = some (.int .i64 (j.low : Int)) ∧ w.cell? ⟨p, 4, none⟩ = some (.int .i64 (j.safe : Int)) ∧ w.cell? ⟨p, 5, none⟩ = some (.int .i64 (j.epoch : Int)) ∧ w.cell? ⟨p, 6, none⟩ = some (.string j.note) := by
  obtain ⟨vl, h1, h2, h3⟩ := h
  obtain ⟨al, cl, rfl, _⟩ := h3.len
  exact ⟨al, cl, h1, h3, cell_of_heap h1, cell_of_heap h1, cell_of_heap h1, cell_of_heap h1, cell_of_heap h1, cell_of_heap h1, cell_of_heap h1⟩

def strApp (args : Array Value) : Sem Value := Builtin.append_ #[233, 233] 233 args
theorem strApp_eq (args : Array Value) : Builtin.append_ #[233, 233] 233 args = strApp args := rfl
theorem str_run {S : Nat → Prop} {X : World} {p f n : Nat} {t : TypeId} {cs : Array Value} {vl x : Value} {xs : List Value} (hb : X.heap[p]? = some (.cells cs t (0, 0))) (hown : Own S X 9 1 vl n xs) (hS : ¬ S p) (hn : (n + 1) * 16 ≤ 140737488355328) (hx : x.oneCell' = true) :
    ∃ q c w1, (strApp #[vl, .slice (some ⟨X.heap.size, 0, none⟩) 1 1]).run Tryz.prog (X.alloc (.cells #[x] 9)) = .ok (.slice (some ⟨q, 0, none⟩) (n + 1) c) w1 ∧ w1.cell? ⟨p, f, none⟩ = cs[f]? ∧ w1.frozen? ⟨p, f, none⟩ = false ∧
      Hid ((w1.setCell ⟨p, f, none⟩ (.slice (some ⟨q, 0, none⟩) (n + 1) c)).heap[p]? = some (.cells (cs.setIfInBounds f (.slice (some ⟨q, 0, none⟩) (n + 1) c)) t (0, 0)) ∧
      Own (fun k => S k ∨ X.heap.size ≤ k) (w1.setCell ⟨p, f, none⟩ (.slice (some ⟨q, 0, none⟩) (n + 1) c)) 9 1 (.slice (some ⟨q, 0, none⟩) (n + 1) c) (n + 1) (xs ++ [x]) ∧
      Keeps (fun k => k = p ∨ S k) X (w1.setCell ⟨p, f, none⟩ (.slice (some ⟨q, 0, none⟩) (n + 1) c))) := by
  obtain ⟨iB, hiB, hzB0, hzB1, hzB2⟩ := info_parts infoString
  obtain ⟨q, c, w1, r0, r1, r2, r3, _⟩ := run_append_lies (P := Tryz.prog) (X.alloc (.cells #[x] 9)) 233 233 0 9 iB _ 1 16 Tryz.underlying233 hiB hzB0 hzB1 hzB2 rfl (by omega) vl n xs (hown.1.alloc _) ⟨X.heap.size, 0, none⟩ 1 1 [x] rfl
    (World.news_of_block (cs := #[x]) (t := 9) (fr := (0, 0)) (heap_alloc_new X _)) (fun u hu => by rw [List.mem_singleton.1 hu]; exact hx) (by omega) (by unfold maxLen; omega) (by omega) (Nat.zero_le _) (X.heap.size + 1) (by simp)
  have hk1 := keeps_grown ((Keeps.refl _ X).alloc _) r2
  have hb1 := hk1.heap hb (fun e => hS (hown.2 _ e))
  obtain ⟨f1, f2, f3⟩ := Own.field (f := f) hb hown hS hk1 r1 r3 (by omega)
  exact ⟨q, c, w1, r0, cell_of_heap hb1, frozen_of_heap hb1, hide ⟨f1, f2, f3⟩⟩

attribute [local go_sem ↓] mulI_eq quoI_eq strApp_eq

set_option maxRecDepth 100000 in
set_option maxHeartbeats 400000 in
theorem geo_bad (n ring per : Int) (w : World) (h : ¬ (2 ≤ ring ∧ ring ≤ 6 ∧ 2 ≤ per ∧ per ≤ 16)) :
    Calls Tryz.prog 250 #[.int .i64 n, .int .i64 ring, .int .i64 per] w fun e w' => e = .returned (.bool false) ∧ w' = w := by
  by_cases h1 : ring < 2
  · have g1 : decide (ring < 2) = true := by simpa using h1
    clear h
    go_enter Tryz.func250, Tryz.ntmps250
    go_wp2
    go_ret
    exact ⟨rfl, rfl⟩
  · have g1 : decide (ring < 2) = false := by simpa using h1
    by_cases h2 : 6 < ring
    · have g2 : decide (6 < ring) = true := by simpa using h2
      clear h
      go_enter Tryz.func250, Tryz.ntmps250
      go_wp2
      go_ret
      exact ⟨rfl, rfl⟩
    · have g2 : decide (6 < ring) = false := by simpa using h2
      by_cases h3 : per < 2
      · have g3 : decide (per < 2) = true := by simpa using h3
        clear h
        go_enter Tryz.func250, Tryz.ntmps250
        go_wp2
        go_ret
        exact ⟨rfl, rfl⟩
      · have g3 : decide (per < 2) = false := by simpa using h3
        have h4 : 16 < per := by omega
        have g4 : decide (16 < per) = true := by simpa using h4
        clear h
        go_enter Tryz.func250, Tryz.ntmps250
        go_wp2
        go_ret
        exact ⟨rfl, rfl⟩

set_option maxRecDepth 100000 in
set_option maxHeartbeats 400000 in
theorem geo_in (n ring per : Nat) (w : World) (hr : 2 ≤ ring ∧ ring ≤ 6) (hp : 2 ≤ per ∧ per ≤ 16) :
    Calls Tryz.prog 250 #[.int .i64 (n : Int), .int .i64 (ring : Int), .int .i64 (per : Int)] w fun e w' => e = .returned (.bool (decide (ring * per + 2 ≤ n))) ∧ w' = w := by
  have hC : 4 ≤ ring * per ∧ ring * per ≤ 96 := ⟨Nat.mul_le_mul hr.1 hp.1, Nat.mul_le_mul hr.2 hp.2⟩
  obtain ⟨C, HQ⟩ : ∃ q : Nat, Hid (q = ring * per) := ⟨_, hide rfl⟩
  have hmul := fun W => run_mulI W ring per (by omega)
  rw [← unhide HQ] at hmul hC ⊢
  go_enter Tryz.func250, Tryz.ntmps250
  go_wp2
  go_ret
  refine ⟨ret_bool ?_, rfl⟩
  rw [decide_eq_decide]; omega

set_option maxRecDepth 100000 in
set_option maxHeartbeats 400000 in
theorem rCreate_no (n ring per : Int) (w : World) (h : Calls Tryz.prog 250 #[.int .i64 n, .int .i64 ring, .int .i64 per] w fun e w' => e = .returned (.bool false) ∧ w' = w) :
    Calls Tryz.prog 181 #[.int .i64 n, .int .i64 ring, .int .i64 per] w fun e w' => e = .returned (.tuple #[.pointer none, .int .i64 1]) ∧ w' = w := by
  have H := hide h
  clear h
  go_enter Tryz.func181, Tryz.ntmps181
  go_wp2_with fail
  go_at_call 250
  refine (unhide H).mono ?_
  rintro e w1 ⟨rfl, rfl⟩
  go_wp2
  go_ret2
  exact ⟨rfl, rfl⟩

set_option maxRecDepth 100000 in
set_option maxHeartbeats 400000 in
theorem rCreate_yes (n ring per : Nat) (w : World) (hr : 2 ≤ ring ∧ ring ≤ 6) (hp : 2 ≤ per ∧ per ≤ 16) (hroom : ring * per + 2 ≤ n) :
    Calls Tryz.prog 181 #[.int .i64 (n : Int), .int .i64 (ring : Int), .int .i64 (per : Int)] w fun e w' => ∃ p, e = .returned (.tuple #[.pointer (some ⟨p, 0, none⟩), .int .i64 0]) ∧ w.heap.size ≤ p ∧ RJ (fun k => w.heap.size ≤ k) w' p (newJM ring per) ∧ Keeps (fun _ => False) w w' := by
  have H := hide (geo_in n ring per w hr hp)
  rw [decide_eq_true hroom] at H
  go_enter Tryz.func181, Tryz.ntmps181
  go_wp2_with fail
  go_at_call 250
  refine (unhide H).mono ?_
  rintro e w1 ⟨rfl, rfl⟩
  go_wp2
  go_ret2
  exact ⟨w1.heap.size, rfl, Nat.le_refl _, ⟨.slice none 0 0, heap_alloc_last w1 _, Nat.le_refl _, Own.nil _ _ _ _⟩, (Keeps.refl _ _).alloc _⟩

set_option maxRecDepth 100000 in
set_option maxHeartbeats 400000 in
theorem rjNext_any (S : Nat → Prop) (p : Nat) (j : JM) (w : World) (hJ : RJ S w p j) (hl : j.L.length < 4611686018427387904) :
    Calls Tryz.prog 265 #[.pointer (some ⟨p, 0, none⟩)] w fun e w' => e = .returned (.int .i64 ((j.L.length + 1 : Nat) : Int)) ∧ w' = w := by
  obtain ⟨al, cl, hb, hown, c0, c1, c2, c3, c4, c5, c6⟩ := hJ.cells
  clear hJ hb hown
  go_enter Tryz.func265, Tryz.ntmps265
  go_wp2
  go_ret
  exact ⟨rfl, rfl⟩

set_option maxRecDepth 100000 in
set_option maxHeartbeats 400000 in
theorem rjAppend_long (S : Nat → Prop) (p : Nat) (j : JM) (s : ByteArray) (w : World) (_hJ : RJ S w p j) (hs : 40 < s.size) (hs' : s.size ≤ 140737488351232) :
    Calls Tryz.prog 198 #[.pointer (some ⟨p, 0, none⟩), .string s] w fun e w' => e = .returned (.tuple #[.int .i64 0, .int .i64 1]) ∧ w' = w := by
  clear _hJ
  go_enter Tryz.func198, Tryz.ntmps198
  go_wp2
  go_ret2
  exact ⟨rfl, rfl⟩

set_option maxRecDepth 100000 in
set_option maxHeartbeats 400000 in
theorem rjAppend_full (S : Nat → Prop) (p : Nat) (j : JM) (s : ByteArray) (w : World) (hJ : RJ S w p j) (hok : j.ok) (hs : s.size ≤ 40) (hf : j.full) :
    Calls Tryz.prog 198 #[.pointer (some ⟨p, 0, none⟩), .string s] w fun e w' => e = .returned (.tuple #[.int .i64 0, .int .i64 2]) ∧ Keeps (fun _ => False) w w' := by
  obtain ⟨al, cl, hb, hown, c0, c1, c2, c3, c4, c5, c6⟩ := hJ.cells
  have hlim : j.L.length ≤ 9223372036854775807 ∧ j.low - 1 ≤ 9223372036854775807 ∧ 1 ≤ j.per := by have := hok.few; have := hok.low; have := hok.per; omega
  have hlow := hok.low
  have hring := hok.ring
  have hper := hok.per
  have hfew := hok.few
  have q1 := fun W => run_quoI W j.L.length j.per hlim.1 hlim.2.2
  have q2 : ∀ W, (quoI (.int .i64 ((j.low : Int) - 1)) (.int .i64 (j.per : Int))).run Tryz.prog W = .ok (.int .i64 (((j.low - 1) / j.per : Nat) : Int)) W := fun W => by
    have := run_quoI W (j.low - 1) j.per hlim.2.1 hlim.2.2
    rwa [show ((j.low - 1 : Nat) : Int) = (j.low : Int) - 1 by omega] at this
  have b1 := Nat.div_le_self j.L.length j.per
  have b2 := Nat.div_le_self (j.low - 1) j.per
  unfold JM.full at hf
  generalize j.L.length / j.per = A1 at *
  generalize (j.low - 1) / j.per = A2 at *
  have hge : decide ((j.ring : Int) ≤ (A1 : Int) - (A2 : Int)) = true := by simp; omega
  clear hJ hb hown hok
  go_enter Tryz.func198, Tryz.ntmps198
  go_wp2
  go_quiet (fail)
  go_wp2
  go_ret2
  exact ⟨rfl, (Keeps.refl _ w).drewN _⟩

set_option maxRecDepth 100000 in
set_option maxHeartbeats 400000 in
theorem rjAppend_yes (S : Nat → Prop) (p : Nat) (j : JM) (s : ByteArray) (w : World) (hJ : RJ S w p j) (hok : j.ok) (hs : s.size ≤ 40) (hf : ¬ j.full) (hfl : (j.L.length + 1) * 16 ≤ 140737488355328) :
    Calls Tryz.prog 198 #[.pointer (some ⟨p, 0, none⟩), .string s] w fun e w' => e = .returned (.tuple #[.int .i64 ((j.L.length + 1 : Nat) : Int), .int .i64 0]) ∧ RJ (fun k => S k ∨ w.heap.size ≤ k) w' p { j with L := j.L ++ [s] } ∧ Keeps S w w' := by
  have hSp := hJ.lt
  obtain ⟨al, cl, hb, hown, c0, c1, c2, c3, c4, c5, c6⟩ := hJ.cells
  have hlim : j.L.length ≤ 9223372036854775807 ∧ j.low - 1 ≤ 9223372036854775807 ∧ 1 ≤ j.per := by have := hok.few; have := hok.low; have := hok.per; omega
  have hlow := hok.low
  have hring := hok.ring
  have hper := hok.per
  have hfew := hok.few
  have q1 := fun W => run_quoI W j.L.length j.per hlim.1 hlim.2.2
  have q2 : ∀ W, (quoI (.int .i64 ((j.low : Int) - 1)) (.int .i64 (j.per : Int))).run Tryz.prog W = .ok (.int .i64 (((j.low - 1) / j.per : Nat) : Int)) W := fun W => by
    have := run_quoI W (j.low - 1) j.per hlim.2.1 hlim.2.2
    rwa [show ((j.low - 1 : Nat) : Int) = (j.low : Int) - 1 by omega] at this
  have b1 := Nat.div_le_self j.L.length j.per
  have b2 := Nat.div_le_self (j.low - 1) j.per
  unfold JM.full at hf
  generalize j.L.length / j.per = A1 at *
  generalize (j.low - 1) / j.per = A2 at *
  have hge : decide ((j.ring : Int) ≤ (A1 : Int) - (A2 : Int)) = false := by simp; omega
  obtain ⟨i0, hi, hz0, hz1, hz2⟩ := info_parts infoString
  have HB := hide hb
  have HO := hide hown
  clear hJ hb hown hok
  go_enter Tryz.func198, Tryz.ntmps198
  go_wp2
  go_quiet (fail)
  have hkq : Keeps (fun _ => False) w (w.drewN nq) := (Keeps.refl _ w).drewN nq
  generalize w.drewN nq = X at *
  have hheap := hkq.heap (unhide HB) (fun f => f)
  have hown := (unhide HO).keep hkq (fun _ _ _ f => f)
  have hsx := hkq.size
  have HKX := hide hkq
  clear c0 c1 c2 c3 c4 c5 c6 hkq
  have c2 := cell_of_heap (o := 2) hheap
  have hfz := frozen_of_heap (o := 2) hheap
  simp at c2
  have hpn : ¬ (Value.slice al j.L.length cl).ownBlock = some p := fun e => (hown.2 _ e).2 rfl
  have hpsl : p < X.heap.size := lt_of_heap hheap
  have HOWN := hide hown
  have HHEAP := hide hheap
  clear hheap
  obtain ⟨q, c, w5, hrun, c5, f5, HZ⟩ := str_run (f := 2) (x := .string s) (unhide HHEAP) hown (fun h => h.2 rfl) hfl rfl
  simp at c5
  clear hown
  go_wp2_with fail
  obtain ⟨z1, z2, z3⟩ := unhide HZ
  have c6 := cell_of_heap (o := 2) z1
  simp at c6
  have HZ1 := hide z1
  have HZ2 := hide z2
  have HZ3 := hide z3
  generalize w5.setCell ⟨p, 2, none⟩ (.slice (some ⟨q, 0, none⟩) (j.L.length + 1) c) = X6 at *
  clear z1 z2 z3 c5 f5 hrun HZ
  go_wp2
  go_ret2
  refine ⟨rfl, ⟨_, unhide HZ1, .inl hSp.1, ?_⟩, ((unhide HKX).mono (T := S) (fun _ _ f => f.elim)).trans (unhide HZ3) (fun k _ e => ?_)⟩
  · have e1 : (j.L ++ [s]).length = j.L.length + 1 := by simp
    have e2 : (j.L ++ [s]).map Value.string = j.L.map Value.string ++ [.string s] := by simp
    show Own _ _ _ _ _ (j.L ++ [s]).length ((j.L ++ [s]).map Value.string)
    rw [e1, e2]
    refine (unhide HZ2).mono (fun k l d => ?_)
    rcases d with d | d
    · exact ⟨.inl d.1, d.2⟩
    · exact ⟨.inr (by omega), by omega⟩
  · rcases e with e | e
    · rw [e]; exact hSp.1
    · exact e.1

set_option maxRecDepth 100000 in
set_option maxHeartbeats 400000 in
theorem rjRead_bad (S : Nat → Prop) (p : Nat) (j : JM) (n : Int) (w : World) (hJ : RJ S w p j) (hn : n < (j.low : Int) ∨ (j.L.length : Int) < n) :
    Calls Tryz.prog 203 #[.pointer (some ⟨p, 0, none⟩), .int .i64 n] w fun e w' => e = .returned (.tuple #[.string ByteArray.empty, .int .i64 1]) ∧ w' = w := by
  obtain ⟨al, cl, hb, hown, c0, c1, c2, c3, c4, c5, c6⟩ := hJ.cells
  clear hJ hb hown
  by_cases h0 : n < (j.low : Int)
  · have g0 : decide (n < (j.low : Int)) = true := by simpa using h0
    clear hn
    go_enter Tryz.func203, Tryz.ntmps203
    go_wp2
    go_ret2
    exact ⟨rfl, rfl⟩
  · have g0 : decide (n < (j.low : Int)) = false := by simpa using h0
    have h1 : (j.L.length : Int) < n := by omega
    have g1 : decide ((j.L.length : Int) < n) = true := by simpa using h1
    clear hn
    go_enter Tryz.func203, Tryz.ntmps203
    go_wp2
    go_ret2
    exact ⟨rfl, rfl⟩

set_option maxRecDepth 100000 in
set_option maxHeartbeats 400000 in
theorem rjRead_yes (S : Nat → Prop) (p : Nat) (j : JM) (n : Nat) (s : ByteArray) (w : World) (hJ : RJ S w p j) (h1 : 1 ≤ n) (h0 : j.low ≤ n) (hn : n ≤ j.L.length) (hL : j.L.length < 4611686018427387904) (hs : j.L[n - 1]? = some s) :
    Calls Tryz.prog 203 #[.pointer (some ⟨p, 0, none⟩), .int .i64 (n : Int)] w fun e w' => e = .returned (.tuple #[.string s, .int .i64 0]) ∧ w' = w := by
  obtain ⟨al, cl, hb, hown, c0, c1, c2, c3, c4, c5, c6⟩ := hJ.cells
  obtain ⟨g, cap, e, _, _, _, hc, _⟩ := hown.open (by omega)
  simp only [Value.slice.injEq] at e
  obtain ⟨rfl, _, rfl⟩ := e
  have hcell := hc (n - 1) (.string s) (by rw [List.getElem?_map, hs]; rfl)
  have g0 : decide ((n : Int) < (j.low : Int)) = false := by simp; omega
  have g1 : decide ((j.L.length : Int) < (n : Int)) = false := by simp; omega
  have b0 : (0 : Int) ≤ (n : Int) - 1 := by omega
  have b1 : (n : Int) - 1 < (j.L.length : Int) := by omega
  have b2 : ((n : Int) - 1).toNat = n - 1 := by omega
  clear hJ hb hown hc hs
  go_enter Tryz.func203, Tryz.ntmps203
  go_wp2
  go_ret2
  exact ⟨rfl, rfl⟩

set_option maxRecDepth 100000 in
set_option maxHeartbeats 400000 in
theorem rjForce_bad (S : Nat → Prop) (p : Nat) (j : JM) (n : Int) (w : World) (hJ : RJ S w p j) (hn : n < 0 ∨ (j.L.length : Int) < n) :
    Calls Tryz.prog 260 #[.pointer (some ⟨p, 0, none⟩), .int .i64 n] w fun e w' => e = .returned (.tuple #[.bool false, .int .i64 1]) ∧ w' = w := by
  obtain ⟨al, cl, hb, hown, c0, c1, c2, c3, c4, c5, c6⟩ := hJ.cells
  clear hJ hb hown
  by_cases h0 : n < 0
  · have g0 : decide (n < 0) = true := by simpa using h0
    clear hn
    go_enter Tryz.func260, Tryz.ntmps260
    go_wp2
    go_ret2
    exact ⟨rfl, rfl⟩
  · have g0 : decide (n < 0) = false := by simpa using h0
    have h1 : (j.L.length : Int) < n := by omega
    have g1 : decide ((j.L.length : Int) < n) = true := by simpa using h1
    clear hn
    go_enter Tryz.func260, Tryz.ntmps260
    go_wp2
    go_ret2
    exact ⟨rfl, rfl⟩

set_option maxRecDepth 100000 in
set_option maxHeartbeats 400000 in
theorem rjForce_old (S : Nat → Prop) (p : Nat) (j : JM) (n : Nat) (w : World) (hJ : RJ S w p j) (hn : n ≤ j.L.length) (hd : n ≤ j.safe) :
    Calls Tryz.prog 260 #[.pointer (some ⟨p, 0, none⟩), .int .i64 (n : Int)] w fun e w' => e = .returned (.tuple #[.bool false, .int .i64 0]) ∧ w' = w := by
  obtain ⟨al, cl, hb, hown, c0, c1, c2, c3, c4, c5, c6⟩ := hJ.cells
  have g0 : decide ((n : Int) < 0) = false := by simp
  have g1 : decide ((j.L.length : Int) < (n : Int)) = false := by simp; omega
  have g2 : decide ((n : Int) ≤ (j.safe : Int)) = true := by simp; omega
  clear hJ hb hown
  go_enter Tryz.func260, Tryz.ntmps260
  go_wp2
  go_ret2
  exact ⟨rfl, rfl⟩

set_option maxRecDepth 100000 in
set_option maxHeartbeats 400000 in
theorem rjForce_new (S : Nat → Prop) (p : Nat) (j : JM) (n : Nat) (w : World) (hJ : RJ S w p j) (hn : n ≤ j.L.length) (hd : j.safe < n) :
    Calls Tryz.prog 260 #[.pointer (some ⟨p, 0, none⟩), .int .i64 (n : Int)] w fun e w' => e = .returned (.tuple #[.bool true, .int .i64 0]) ∧ RJ S w' p { j with safe := j.L.length } ∧ Keeps S w w' := by
  have hSp := hJ.lt
  obtain ⟨al, cl, hb, hown, c0, c1, c2, c3, c4, c5, c6⟩ := hJ.cells
  have hfz := frozen_of_heap (o := 4) hb
  have g0 : decide ((n : Int) < 0) = false := by simp
  have g1 : decide ((j.L.length : Int) < (n : Int)) = false := by simp; omega
  have g2 : decide ((n : Int) ≤ (j.safe : Int)) = false := by simp; omega
  have HB := hide hb
  have HO := hide hown
  clear hJ hb hown
  go_enter Tryz.func260, Tryz.ntmps260
  go_wp2
  go_ret2
  have hks : Keeps (fun k => k = p) w (w.setCell ⟨p, 4, none⟩ (.int .i64 (j.L.length : Int))) := (Keeps.refl (fun k => k = p) w).setCell (p := ⟨p, 4, none⟩) (.inl rfl) _
  exact ⟨rfl, ⟨_, heap_setCell_same (unhide HB) _, hSp.1, (unhide HO).keep hks (fun k _ d e => d.2 e)⟩, hks.mono (fun k _ e => by rw [e]; exact hSp.1)⟩

set_option maxRecDepth 100000 in
set_option maxHeartbeats 400000 in
theorem rjTruncate_bad (S : Nat → Prop) (p : Nat) (j : JM) (x : Int) (s : ByteArray) (w : World) (hJ : RJ S w p j) (hL : j.L.length < 4611686018427387904) (hs' : s.size ≤ 140737488351232) (hn : x < (j.low : Int) ∨ (j.L.length : Int) + 1 < x ∨ 40 < s.size) :
    Calls Tryz.prog 201 #[.pointer (some ⟨p, 0, none⟩), .int .i64 x, .string s] w fun e w' => e = .returned (.int .i64 1) ∧ w' = w := by
  obtain ⟨al, cl, hb, hown, c0, c1, c2, c3, c4, c5, c6⟩ := hJ.cells
  clear hJ hb hown
  by_cases h0 : x < (j.low : Int)
  · have g0 : decide (x < (j.low : Int)) = true := by simpa using h0
    clear hn
    go_enter Tryz.func201, Tryz.ntmps201
    go_wp2
    go_ret
    exact ⟨rfl, rfl⟩
  · have g0 : decide (x < (j.low : Int)) = false := by simpa using h0
    by_cases h1 : (j.L.length : Int) + 1 < x
    · have g1 : decide ((j.L.length : Int) + 1 < x) = true := by simpa using h1
      clear hn
      go_enter Tryz.func201, Tryz.ntmps201
      go_wp2
      go_ret
      exact ⟨rfl, rfl⟩
    · have g1 : decide ((j.L.length : Int) + 1 < x) = false := by simpa using h1
      have h2 : 40 < s.size := by omega
      have g2 : decide ((40 : Int) < (s.size : Int)) = true := by simp; omega
      clear hn
      go_enter Tryz.func201, Tryz.ntmps201
      go_wp2
      go_ret
      exact ⟨rfl, rfl⟩

set_option maxRecDepth 100000 in
set_option maxHeartbeats 400000 in
theorem rjTruncate_yes (S : Nat → Prop) (p : Nat) (j : JM) (x : Nat) (s : ByteArray) (w : World) (hJ : RJ S w p j) (hL : j.L.length < 4611686018427387904) (h0 : j.low ≤ x) (h1 : x ≤ j.L.length + 1) (hs : s.size ≤ 40) :
    Calls Tryz.prog 201 #[.pointer (some ⟨p, 0, none⟩), .int .i64 (x : Int), .string s] w fun e w' => e = .returned (.int .i64 0) ∧ RJ S w' p { j with low := x, note := s, safe := j.L.length } ∧ Keeps S w w' := by
  have hSp := hJ.lt
  obtain ⟨al, cl, hb, hown, c0, c1, c2, c3, c4, c5, c6⟩ := hJ.cells
  have hfz := frozen_of_heap (o := 4) hb
  have hfz3 := frozen_of_heap (o := 3) hb
  have hfz6 := frozen_of_heap (o := 6) hb
  have g0 : decide ((x : Int) < (j.low : Int)) = false := by simp; omega
  have g1 : decide ((j.L.length : Int) + 1 < (x : Int)) = false := by simp; omega
  have g2 : decide ((40 : Int) < (s.size : Int)) = false := by simp; omega
  have HB := hide hb
  have HO := hide hown
  clear hJ hb hown
  go_enter Tryz.func201, Tryz.ntmps201
  go_wp2
  go_ret
  have h6 := heap_setCell_same (o := 4) (heap_setCell_same (o := 6) (heap_setCell_same (o := 3) (unhide HB) (.int .i64 (x : Int))) (.string s)) (.int .i64 (j.L.length : Int))
  have hks : Keeps (fun k => k = p) w (((w.setCell ⟨p, 3, none⟩ (.int .i64 (x : Int))).setCell ⟨p, 6, none⟩ (.string s)).setCell ⟨p, 4, none⟩ (.int .i64 (j.L.length : Int))) := (((Keeps.refl (fun k => k = p) w).setCell (p := ⟨p, 3, none⟩) (.inl rfl) _).setCell (p := ⟨p, 6, none⟩) (.inl rfl) _).setCell (p := ⟨p, 4, none⟩) (.inl rfl) _
  exact ⟨rfl, ⟨_, h6, hSp.1, (unhide HO).keep hks (fun k _ d e => d.2 e)⟩, hks.mono (fun k _ e => by rw [e]; exact hSp.1)⟩

set_option maxRecDepth 100000 in
set_option maxHeartbeats 400000 in
theorem rjAgain_any (S : Nat → Prop) (p : Nat) (j : JM) (w : World) (hJ : RJ S w p j) (he : j.epoch < 4611686018427387904) :
    Calls Tryz.prog 183 #[.pointer (some ⟨p, 0, none⟩)] w fun e w' => e = .returned (.tuple #[]) ∧ RJ S w' p { j with safe := j.L.length, epoch := j.epoch + 1 } ∧ Keeps S w w' := by
  have hSp := hJ.lt
  obtain ⟨al, cl, hb, hown, c0, c1, c2, c3, c4, c5, c6⟩ := hJ.cells
  have hfz := frozen_of_heap (o := 4) hb
  have hfz5 := frozen_of_heap (o := 5) hb
  have HB := hide hb
  have HO := hide hown
  clear hJ hb hown
  go_enter Tryz.func183, Tryz.ntmps183
  go_wp2
  go_end0
  have h6 := heap_setCell_same (o := 4) (heap_setCell_same (o := 5) (unhide HB) (.int .i64 ((j.epoch : Int) + 1))) (.int .i64 (j.L.length : Int))
  have hks : Keeps (fun k => k = p) w ((w.setCell ⟨p, 5, none⟩ (.int .i64 ((j.epoch : Int) + 1))).setCell ⟨p, 4, none⟩ (.int .i64 (j.L.length : Int))) := ((Keeps.refl (fun k => k = p) w).setCell (p := ⟨p, 5, none⟩) (.inl rfl) _).setCell (p := ⟨p, 4, none⟩) (.inl rfl) _
  exact ⟨rfl, ⟨_, h6, hSp.1, (unhide HO).keep hks (fun k _ d e => d.2 e)⟩, hks.mono (fun k _ e => by rw [e]; exact hSp.1)⟩

theorem rjcrash_end {S : Nat → Prop} {w : World} {p k cl : Nat} {j : JM} {al : Option Addr} {bs : List Bool} (h1 : w.heap[p]? = some (.cells #[.int .i64 (j.ring : Int), .int .i64 (j.per : Int), .slice al j.L.length cl, .int .i64 (j.low : Int), .int .i64 (j.safe : Int), .int .i64 (j.epoch : Int), .string j.note] 240 (0, 0))) (h2 : S p) (h3 : Own (fun k => S k ∧ k ≠ p) w 9 1 (.slice al j.L.length cl) j.L.length (j.L.map Value.string))
    (hr : ∀ q, q < k → bs.getD q false = true) (hk : k ≤ j.L.length - j.safe) (he : k = j.L.length - j.safe ∨ bs.getD k false = false) (hs : j.safe ≤ j.L.length) :
    RJ S ((w.setCell ⟨p, 2, none⟩ (.slice al (j.safe + k) cl)).setCell ⟨p, 4, none⟩ (.int .i64 ((j.safe + k : Nat) : Int))) p (j.crash bs) ∧ Keeps S w ((w.setCell ⟨p, 2, none⟩ (.slice al (j.safe + k) cl)).setCell ⟨p, 4, none⟩ (.int .i64 ((j.safe + k : Nat) : Int))) := by
  unfold JM.crash
  rw [← runOf_eq bs (j.L.length - j.safe) k hk hr he]
  have hks : Keeps (fun k => k = p) w ((w.setCell ⟨p, 2, none⟩ (.slice al (j.safe + k) cl)).setCell ⟨p, 4, none⟩ (.int .i64 ((j.safe + k : Nat) : Int))) := ((Keeps.refl (fun k => k = p) w).setCell (p := ⟨p, 2, none⟩) (.inl rfl) _).setCell (p := ⟨p, 4, none⟩) (.inl rfl) _
  refine ⟨⟨_, heap_setCell_same (o := 4) (heap_setCell_same (o := 2) h1 _) _, h2, ?_⟩, hks.mono (fun k _ e => by rw [e]; exact h2)⟩
  have e1 : (j.L.take (j.safe + k)).length = j.safe + k := by rw [List.length_take]; omega
  show Own _ _ _ _ _ (j.L.take (j.safe + k)).length ((j.L.take (j.safe + k)).map Value.string)
  rw [e1, List.map_take]
  exact (h3.shrink (by omega)).keep hks (fun k _ d e => d.2 e)

set_option maxRecDepth 100000 in
set_option maxHeartbeats 400000 in
theorem rjCrash_any (S : Nat → Prop) (p kc : Nat) (j : JM) (ao : Option Addr) (bs : List Bool) (w : World) (hJ : RJ S w p j) (hK : Keep S w ao bs) (hsafe : j.safe ≤ j.L.length) (hL : j.L.length < 4611686018427387904) (hbs : bs.length ≤ 140737488351232) (_hkc : bs.length ≤ kc) :
    Calls Tryz.prog 179 #[.pointer (some ⟨p, 0, none⟩), .slice ao bs.length kc] w fun e w' => e = .returned (.tuple #[]) ∧ RJ S w' p (j.crash bs) ∧ Keeps S w w' := by
  have hSp := hJ.lt
  obtain ⟨al, cl, hb, hown, c0, c1, c2, c3, c4, c5, c6⟩ := hJ.cells
  have hcl : j.L.length ≤ cl := by obtain ⟨_, _, e, h⟩ := hown.len; simp only [Value.slice.injEq] at e; omega
  have hfz := frozen_of_heap (o := 2) hb
  have hfz4 := frozen_of_heap (o := 4) hb
  have HG := hide hb
  have HO := hide hown
  have HK := hide hK
  have HT := hide hSp.1
  clear hb hown hK hJ
  go_enter Tryz.func179, Tryz.ntmps179
  go_wp2
  go_loop [4] (fun i => ∃ k : Nat, k ≤ j.L.length - j.safe ∧ i = .int .i64 ((j.safe + k : Nat) : Int) ∧ Hid (∀ q, q < k → bs.getD q false = true)) (fun i => j.L.length - (intOf i).toNat)
  case atStart => exact ⟨0, Nat.zero_le _, rfl, hide (fun q hq => by omega)⟩
  case round =>
    obtain ⟨k, hk, rfl, HR⟩ := hrel
    by_cases h1 : k < j.L.length - j.safe
    · have t1 : decide (((j.safe + k : Nat) : Int) < (j.L.length : Int)) = true := by simp; omega
      by_cases h2 : k < bs.length
      · obtain ⟨gk, ok, rfl, _, _, hcell⟩ := unhide HK k h2
        have e0 : ((j.safe + k : Nat) : Int) - (j.safe : Int) = (k : Int) := by omega
        have t2 : decide ((k : Int) < (bs.length : Int)) = true := by simp; omega
        cases hb : bs.getD k false with
        | true =>
          rw [hb] at hcell
          have HB := hide hb
          clear hb
          go_wp2
          go_round
          case rel =>
            refine ⟨k + 1, by omega, by go_num, hide (fun q hq => ?_)⟩
            by_cases e : q = k
            · rw [e]; exact unhide HB
            · exact unhide HR q (by omega)
          case measure => simp [intOf]; omega
        | false =>
          rw [hb] at hcell
          have HB := hide hb
          clear hb
          go_wp2
          go_end0
          exact ⟨rfl, rjcrash_end (unhide HG) (unhide HT) (unhide HO) (unhide HR) hk (.inr (unhide HB)) hsafe⟩
      · have t2 : decide (((j.safe + k : Nat) : Int) - (j.safe : Int) < (bs.length : Int)) = false := by simp; omega
        have HB : Hid (bs.getD k false = false) := hide (by rw [List.getD_eq_getElem?_getD, List.getElem?_eq_none (by omega)]; rfl)
        go_wp2
        go_end0
        exact ⟨rfl, rjcrash_end (unhide HG) (unhide HT) (unhide HO) (unhide HR) hk (.inr (unhide HB)) hsafe⟩
    · have t1 : decide (((j.safe + k : Nat) : Int) < (j.L.length : Int)) = false := by simp; omega
      have HB : Hid (k = j.L.length - j.safe) := hide (by omega)
      go_wp2
      go_end0
      exact ⟨rfl, rjcrash_end (unhide HG) (unhide HT) (unhide HO) (unhide HR) hk (.inl (unhide HB)) hsafe⟩

end Go.Proofs.YthbmmbgkchiajaaGreat
