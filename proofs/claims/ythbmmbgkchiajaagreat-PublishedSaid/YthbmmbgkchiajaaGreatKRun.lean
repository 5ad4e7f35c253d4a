
/- The one transaction in memory: the calls on its cluster. -/
import Derived.Test.YthbmmbgkchiajaaGreatPNode

namespace Go.Proofs.YthbmmbgkchiajaaGreat
set_option linter.unusedSimpArgs false
set_option linter.unusedVariables false
open Go.RowKit

theorem KPost.still {c : Nat → CTag} {w w' w'' : World} {pk : Nat} {K : KM} {B : Nat} (h : KPost c w pk K B w') (hk : Keeps (fun _ => False) w' w'') : KPost c w pk K B w'' := by
  obtain ⟨⟨c', e, vr, vn, vt, g⟩, k⟩ := h
  exact ⟨⟨c', e, vr, vn, vt, g.keep hk (fun _ _ => rfl) (fun _ _ _ f => f)⟩, k.trans hk (fun _ _ f => f.elim)⟩

/-- The transaction is under way, at most x deliveries ahead of its end. -/
def KRun (cfg : Cfg) (c s : Nat) (T : Nat → CTag) (w : World) (pk x : Nat) (w' : World) : Prop := ∃ K B st d, KPost T w pk K B w' ∧ PIn cfg c s st d K ∧ leftOf s st ≤ x ∧ B + 20 * x ≤ 1000
/-- It is over. -/
def KOver (cfg : Cfg) (c s : Nat) (T : Nat → CTag) (w : World) (pk : Nat) (w' : World) : Prop := ∃ K B st d, KPost T w pk K B w' ∧ PIn cfg c s st d K ∧ K.net = [] ∧ B ≤ 1000

section
variable {cfg : Cfg} {c s : Nat} {T : Nat → CTag} {w w1 w2 : World} {pk x : Nat}

theorem KRun.still (h : KRun cfg c s T w pk x w1) (hk : Keeps (fun _ => False) w1 w2) : KRun cfg c s T w pk x w2 := by
  obtain ⟨K, B, st, d, h1, h2⟩ := h
  exact ⟨K, B, st, d, h1.still hk, h2⟩
theorem KOver.still (h : KOver cfg c s T w pk w1) (hk : Keeps (fun _ => False) w1 w2) : KOver cfg c s T w pk w2 := by
  obtain ⟨K, B, st, d, h1, h2⟩ := h
  exact ⟨K, B, st, d, h1.still hk, h2⟩
theorem KRun.keeps (h : KRun cfg c s T w pk x w1) : Keeps (fun k => T k ≠ .other) w w1 := by
  obtain ⟨K, B, st, d, h1, h2⟩ := h
  exact h1.2
theorem KOver.keeps (h : KOver cfg c s T w pk w1) : Keeps (fun k => T k ≠ .other) w w1 := by
  obtain ⟨K, B, st, d, h1, h2⟩ := h
  exact h1.2
theorem KRun.rebase (h : KRun cfg c s T w pk x w1) (hk : Keeps (fun _ => False) w1 w2) : ∃ T', (∀ k, k < w.heap.size → T' k = T k) ∧ (∀ k, w1.heap.size ≤ k → T' k = .other) ∧ KRun cfg c s T' w2 pk x w2 := by
  obtain ⟨K, B, st, d, ⟨⟨c1, e1, g1⟩, k1⟩, h2⟩ := h
  exact ⟨ctagsUp c1 w1 .other, fun k hk' => (ctagsUp_old (Nat.lt_of_lt_of_le hk' k1.size)).trans (e1 k hk'), fun k hk' => ctagsUp_new hk', K, B, st, d, KPost.refl (g1.begin hk), h2⟩

theorem rowLen {w : World} {e size n : Nat} {b : Option Addr} {q z : Nat} {xs : List Value} (h : w.ownsRow 0 e size (.slice b q z) n xs) : q = n := by
  rcases h.2 with ⟨h1, h2⟩ | ⟨g, c', cur, h1, _⟩
  · cases h1; exact h2.symm
  · cases h1; rfl

theorem run_net (ho : POk cfg c s) (h : KRun cfg c s T w pk x w1) :
    Calls Tryz.prog 19 #[.pointer (some ⟨pk, 0, none⟩)] w1 fun e w2 => ∃ b q z, e = .returned (.slice b q z) ∧ q ≤ 1000 ∧ ((q = 0 ∧ KOver cfg c s T w pk w2) ∨ (0 < q ∧ 0 < x ∧ KRun cfg c s T w pk x w2 ∧ ∀ j, j < q → ∀ w3, Keeps (fun _ => False) w2 w3 → Calls Tryz.prog 20 #[.pointer (some ⟨pk, 0, none⟩), .int .i64 (j : Int)] w3 fun e w4 => e = .returned (.int .i64 0) ∧ KRun cfg c s T w pk (x - 1) w4)) := by
  obtain ⟨K, B, st, d, hP, hI, hx, hB⟩ := h
  obtain ⟨c1, e1, g1, t1⟩ := hP.next
  have hs : K.net.length ≤ B := by obtain ⟨_, _, _, g⟩ := g1; exact g.small.1
  refine (net_any c1 pk B K w1 g1 (by omega)).mono ?_
  rintro e w2 ⟨b, q, z, rfl, r1, r2, r3⟩
  have hq := rowLen r1
  refine ⟨b, q, z, rfl, by omega, ?_⟩
  by_cases h0 : q = 0
  · have hn : K.net = [] := List.length_eq_zero_iff.1 (by omega)
    exact .inl ⟨h0, K, B, st, d, hP.still r3, hI, hn, by omega⟩
  · refine .inr ⟨by omega, ?_, ⟨K, B, st, d, hP.still r3, hI, hx, hB⟩, ?_⟩
    · obtain ⟨m, hm⟩ : ∃ m, K.net[0]? = some m := ⟨_, List.getElem?_eq_getElem (by omega)⟩
      obtain ⟨n, k, st', d', _, _, _, _, _, _, _, _, hlt⟩ := hI.step ho hm
      omega
    · intro j hj w3 hk3
      obtain ⟨m, hm⟩ : ∃ m, K.net[j]? = some m := ⟨_, List.getElem?_eq_getElem (by omega)⟩
      obtain ⟨n, k, st', d', hn, hup, hz, hf, ht, hk, hl, hI', hlt⟩ := hI.step ho hm
      obtain ⟨c3, e3, g3, t3⟩ := ((hP.still r3).still hk3).next
      obtain ⟨p, hp⟩ : ∃ p, K.ps[m.to]? = some p := by
        obtain ⟨_, _, _, g⟩ := g3
        exact ⟨_, List.getElem?_eq_getElem (by rw [g.len]; exact (List.getElem?_eq_some_iff.1 hn).1)⟩
      refine (deliver_ok c3 pk B j p K m n k w3 g3 hm hn hp hup hz hf ht hk (by omega) (by omega)).mono ?_
      rintro e w4 ⟨rfl, h4⟩
      exact ⟨rfl, _, _, st', d', t3 _ _ _ h4, hI', by omega, by omega⟩

theorem run_begin {K : KM} {B : Nat} {v : Value} {l : List Int} (ho : POk cfg c s) (h : KAt T w pk K B) (hB : B ≤ 10) (hS : Started cfg cfg.nodes K.ns) (hnet : K.net = []) (htr : K.trace = []) (hv : IntsAt w v l) (hl : ofList cfg.nodes l 0 = some s) :
    Calls Tryz.prog 18 #[.pointer (some ⟨pk, 0, none⟩), .int .i64 (c : Int), v] w fun e w' => e = .returned (.tuple #[txv (pubT c), .int .i64 0]) ∧ KRun cfg c s T w pk 20 w' := by
  obtain ⟨n, hn, hup, hz, hfl, hid, hinc, hbg, k, hk, hke, hI⟩ := PIn.first ho hS hnet htr
  have hlen : K.ps.length = cfg.nodes := by
    obtain ⟨_, _, _, g⟩ := h
    rw [g.len]; exact hS.1
  obtain ⟨p, hp⟩ : ∃ p, K.ps[c]? = some p := ⟨_, List.getElem?_eq_getElem (by rw [hlen]; exact ho.coord)⟩
  have ht : (⟨n.id, n.inc, n.begun + 1⟩ : Tx) = pubT c := by rw [hid, hinc, hbg]; rfl
  have hb := begin_ok T pk B c p s K l v n k w h hn hp hup hz hfl hv (by rw [hlen]; exact hl) ho.ne (fun b => by rw [ht]; exact hk b) (fun b => by have := hke b; omega) (by omega)
  rw [ht] at hb
  refine hb.mono ?_
  rintro e w' ⟨rfl, b, h4⟩
  exact ⟨rfl, _, _, _, _, h4, hI b, left_first s, by have := hke b; omega⟩

theorem run_costs {i : Nat} (ho : POk cfg c s) (h : KOver cfg c s T w pk w1) (hi : i < cfg.nodes) :
    Calls Tryz.prog 54 #[.pointer (some ⟨pk, 0, none⟩), .int .i64 (i : Int)] w1 fun e w2 => e = .returned (.tuple #[.agg #[.int .i64 ((wantF cfg c s i : Nat) : Int), .int .i64 ((wantL cfg c s i : Nat) : Int), .int .i64 ((wantS cfg c s i : Nat) : Int)], .int .i64 0]) ∧ Keeps (fun _ => False) w1 w2 := by
  obtain ⟨K, B, st, d, hP, hI, hn, hB⟩ := h
  obtain ⟨c1, e1, g1, t1⟩ := hP.next
  obtain ⟨_, _, ho3⟩ := hI.over ho hn
  obtain ⟨n, hni⟩ : ∃ n, K.ns[i]? = some n := ⟨_, List.getElem?_eq_getElem (by rw [hI.len]; exact hi)⟩
  obtain ⟨p, hp⟩ : ∃ p, K.ps[i]? = some p := by
    obtain ⟨_, _, _, g⟩ := g1
    exact ⟨_, List.getElem?_eq_getElem (by rw [g.len, hI.len]; exact hi)⟩
  obtain ⟨_, f1, f2, f3⟩ := ho3 i n hni
  rw [← f1, ← f2, ← f3]
  exact costs_ok c1 pk B i p n K w1 g1 hp hni

theorem run_trace (ho : POk cfg c s) (h : KOver cfg c s T w pk w1) :
    Calls Tryz.prog 23 #[.pointer (some ⟨pk, 0, none⟩), .int .i64 0] w1 fun e w2 => ∃ v, e = .returned v ∧ Keeps (fun _ => False) w1 w2 ∧ ∀ w3, Keeps (fun _ => False) w2 w3 →
      (Calls Tryz.prog 35 #[v, .int .i64 2, txv (pubT c), .int .i64 1] w3 fun e w4 => e = .returned (.int .i64 1) ∧ Keeps (fun _ => False) w3 w4) ∧
      (Calls Tryz.prog 35 #[v, .int .i64 3, txv (pubT c), .int .i64 1] w3 fun e w4 => e = .returned (.int .i64 (((members s).length : Nat) : Int)) ∧ Keeps (fun _ => False) w3 w4) := by
  obtain ⟨K, B, st, d, hP, hI, hn, hB⟩ := h
  obtain ⟨c1, e1, g1, t1⟩ := hP.next
  obtain ⟨ho1, ho2, _⟩ := hI.over ho hn
  have hs : K.trace.length ≤ B := by obtain ⟨_, _, _, g⟩ := g1; exact g.small.2.1
  have hne : K.trace ≠ [] := fun e => by rw [e] at ho1; cases ho1
  refine (trace_zero c1 pk B K w1 g1 (by omega)).mono ?_
  rintro e w2 ⟨b, q, z, rfl, r1, r2, r3⟩
  refine ⟨_, rfl, r3, fun w3 hk3 => ?_⟩
  have h3 : w3.ownsRow 0 56 12 (.slice b q z) K.trace.length (K.trace.flatMap evCells) := (Own.keep (S := fun _ => True) ⟨r1, fun _ _ => trivial⟩ hk3 (fun _ _ _ f => f)).1
  have hq := rowLen h3
  subst hq
  rcases h3.2 with ⟨_, h0⟩ | ⟨g, c', cur, hv, _⟩
  · exact absurd (List.length_eq_zero_iff.1 h0) hne
  · cases hv
    have a1 := agreed_some g z 2 1 (pubT c) K.trace w3 h3 (by omega)
    have a2 := agreed_some g z 3 1 (pubT c) K.trace w3 h3 (by omega)
    rw [ho1] at a1
    rw [ho2] at a2
    exact ⟨a1, a2⟩
end

end Go.Proofs.YthbmmbgkchiajaaGreat

/- All messages are delivered. -/
namespace Go.Proofs.YthbmmbgkchiajaaGreat
set_option linter.unusedSimpArgs false
set_option linter.unusedVariables false
open Go.RowKit

set_option maxRecDepth 100000 in
set_option maxHeartbeats 400000 in
theorem delivers_ok {cfg : Cfg} {c s : Nat} {T : Nat → CTag} {w w1 : World} {pk x : Nat} (most : Nat) (ho : POk cfg c s) (h : KRun cfg c s T w pk x w1) (hm : x < most) (hm' : most ≤ 1000) :
    Calls Tryz.prog 32 #[.pointer (some ⟨pk, 0, none⟩), .int .i64 (most : Int)] w1 fun e w2 => e = .returned (.bool true) ∧ KOver cfg c s T w pk w2 := by
  have HR0 : Hid (KRun cfg c s T w pk (x - 0) w1) := hide h
  clear h
  go_enter Tryz.func32, Tryz.ntmps32
  go_wp2
  go_loopw [5, 6] (fun i _ wr => ∃ j : Nat, j ≤ x ∧ i = .int .i64 (j : Int) ∧ Hid (KRun cfg c s T w pk (x - j) wr)) (fun i _ _ => x - (intOf i).toNat)
  case atStart => exact ⟨0, by omega, rfl, HR0⟩
  case round =>
    obtain ⟨j, hj, rfl, HR⟩ := hrel
    have hlt : (j : Int) < (most : Int) := by omega
    have hnet := run_net ho (unhide HR)
    go_wp2_with fail
    go_at_call 19
    refine hnet.mono ?_
    rintro e w2 ⟨b, q, z, rfl, hq, hor⟩
    rcases hor with ⟨rfl, hov⟩ | ⟨hq0, hx0, _, hdel⟩
    · have HO := hide hov
      clear hov hnet
      go_wp2
      go_ret
      exact ⟨rfl, unhide HO⟩
    · have hne : ¬ q = 0 := by omega
      have hd := hdel 0 hq0 w2 (Keeps.refl _ _)
      clear hdel hnet
      go_wp2_with fail
      go_at_call 20
      refine hd.mono ?_
      rintro e w4 ⟨rfl, h4⟩
      have HN : Hid (KRun cfg c s T w pk (x - (j + 1)) w4) := hide (by rw [Nat.sub_add_eq]; exact h4)
      clear h4 hd
      go_wp2_with fail
      go_roundw
      case rel => exact ⟨j + 1, by omega, by go_num, HN⟩
      case measure => simp [intOf]; omega

end Go.Proofs.YthbmmbgkchiajaaGreat
