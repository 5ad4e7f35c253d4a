
/- The law itself: one transaction, delivered in any order. -/
import Derived.Test.YthbmmbgkchiajaaGreatKCosts2
import Derived.Deep.Slices
import Derived.SizedLaws
import Derived.ChangeOld
import Derived.ProofKit
import Derived.OpenShut
import Derived.ShutString
import Derived.Below

namespace Go.Proofs.YthbmmbgkchiajaaGreat
set_option linter.unusedSimpArgs false
set_option linter.unusedVariables false
open Go.RowKit

def shlW (x y : Value) : Sem Value := binOp .shl 3 x y
theorem shlW_eq (x y : Value) : binOp .shl 3 x y = shlW x y := rfl
theorem run_shlW (W : World) (i : Nat) (hi : i ≤ 4) : (shlW (.int .i64 1) (.int .i64 (i : Int))).run Tryz.prog W = .ok (.int .i64 ((2 ^ i : Nat) : Int)) W := by
  have e : min (i : Int).toNat IntKind.i64.bits = i := by
    show min _ 64 = _
    omega
  unfold shlW binOp Op.shift
  simp only
  rw [if_neg (by omega), e]
  show (pure (Value.int .i64 (IntKind.i64.wrap _)) : Sem Value).run _ _ = _
  have hle : 2 ^ i ≤ 2 ^ 4 := Nat.pow_le_pow_right (by omega) (by omega)
  have e2 : (1 : Int) * 2 ^ i = ((2 ^ i : Nat) : Int) := by rw [Int.one_mul, Int.natCast_pow]; rfl
  rw [e2]
  generalize 2 ^ i = x at *
  rw [IntWalk.i64_in _ ⟨by omega, by omega⟩]
  rfl

/-- The numbers that come in. -/
def OrdAt (w : World) (ao : Option Addr) (len : Nat) : Prop := ∀ i, i < len → ∃ g o x, ao = some ⟨g, o, none⟩ ∧ g < w.heap.size ∧ -9223372036854775808 ≤ x ∧ x ≤ 9223372036854775807 ∧ w.cell? ⟨g, o + i, none⟩ = some (.int .i64 x)

attribute [local go_sem ↓] shrI_eq remI_eq shlW_eq inApp_eq

set_option maxRecDepth 100000 in
set_option maxHeartbeats 400000 in
theorem publ_bad (n v r p t node parts : Int) (vo : Value) (w : World) (h : rightC n v r p t = false) :
    Calls Tryz.prog 7 #[cfgv n v r p t, .int .i64 node, .int .i64 parts, vo] w fun e w' => e = .returned (.bool true) ∧ Keeps (fun _ => False) w w' := by
  obtain ⟨W, hW, hkW, hA⟩ : ∃ W, w.alloc (.cells #[.int .i64 n, .int .i64 v, .int .i64 r, .int .i64 p, .int .i64 t] 29) = W ∧ Keeps (fun _ => False) w W ∧ W.heap[w.heap.size]? = some (.cells #[.int .i64 n, .int .i64 v, .int .i64 r, .int .i64 p, .int .i64 t] 29 (0, 0)) := ⟨_, rfl, (Keeps.refl _ w).alloc _, heap_alloc_new _ _⟩
  have HOP := hide (fun V => copen_bad n v r p t V h)
  have a0 := cell_of_heap (o := 0) hA
  have a1 := cell_of_heap (o := 1) hA
  have a2 := cell_of_heap (o := 2) hA
  have a3 := cell_of_heap (o := 3) hA
  have a4 := cell_of_heap (o := 4) hA
  simp at a0 a1 a2 a3 a4
  clear hA h
  unfold cfgv
  go_enter Tryz.func7, Tryz.ntmps7
  go_wp2_with fail
  generalize hX : World.alloc W _ = V
  have hkV : Keeps (fun _ => False) W V := by rw [← hX]; exact (Keeps.refl _ W).alloc _
  have hop := unhide HOP V
  clear hX
  go_at_call 16
  refine hop.mono ?_
  rintro e w1 ⟨rfl, hk1⟩
  have HF : Hid (Keeps (fun _ => False) w w1) := hide ((hkW.trans hkV (fun _ _ f => f)).trans hk1 (fun _ _ f => f))
  clear hop hk1
  go_wp2
  go_ret
  exact ⟨rfl, unhide HF⟩

set_option maxRecDepth 100000 in
set_option maxHeartbeats 2000000 in
theorem publ_ok (cfg : Cfg) (node parts : Int) (ao : Option Addr) (len cap : Nat) (w : World) (hc : CfgOk cfg) (h24 : 24 ≤ cfg.ring * cfg.per) (hn0 : -9223372036854775808 ≤ node) (hn1 : node ≤ 9223372036854775807) (hp0 : -9223372036854775808 ≤ parts) (hp1 : parts ≤ 9223372036854775807) (hlen : len ≤ 4611686018427387904) (hO : OrdAt w ao len) :
    Calls Tryz.prog 7 #[cfgV cfg, .int .i64 node, .int .i64 parts, .slice ao len cap] w fun e w' => e = .returned (.bool true) ∧ Keeps (fun k => w.heap.size ≤ k) w w' := by
  have h4 := hc.nodes
  obtain ⟨M, hM⟩ : ∃ M, 2 ^ cfg.nodes = M + 1 := ⟨2 ^ cfg.nodes - 1, by have : 0 < 2 ^ cfg.nodes := Nat.pow_pos (by omega); omega⟩
  have hM1 : 1 ≤ M ∧ M ≤ 15 := by
    have h1 : 2 ^ 1 ≤ 2 ^ cfg.nodes := Nat.pow_le_pow_right (by omega) (by omega)
    have h2 : 2 ^ cfg.nodes ≤ 2 ^ 4 := Nat.pow_le_pow_right (by omega) (by omega)
    omega
  have hsh : ∀ W, (shlW (.int .i64 1) (.int .i64 (cfg.nodes : Int))).run Tryz.prog W = .ok (.int .i64 ((M : Int) + 1)) W := fun W => by
    have := run_shlW W cfg.nodes h4.2
    rw [hM, Int.natCast_add] at this
    exact this
  have hpk1 := fun W => kpick_any node cfg.nodes W hn0 hn1 (by omega) (by omega)
  have hpk2 := fun W => kpick_any parts M W hp0 hp1 (by omega) (by omega)
  have hcl := pickOf_lt node cfg.nodes (by omega)
  have hsl := pickOf_lt parts M (by omega)
  generalize pickOf node cfg.nodes = c at *
  generalize pickOf parts M = p0 at *
  obtain ⟨s, hs⟩ : ∃ s, s = 1 + p0 := ⟨_, rfl⟩
  have es : (1 : Int) + (p0 : Int) = (s : Int) := by omega
  obtain ⟨h16, hpl, hbl, hofl⟩ := partsOf h4.2 (s := s) (by omega)
  have ho : POk cfg c s := ⟨hc, h24, hcl, hpl, h16, by omega⟩
  have HOP : Hid (∀ V, Calls Tryz.prog 16 #[.agg #[.int .i64 (cfg.nodes : Int), .int .i64 (cfg.variant : Int), .int .i64 (cfg.ring : Int), .int .i64 (cfg.per : Int), .int .i64 (cfg.patience : Int), .slice none 0 0]] V fun e w' => ∃ pk, e = .returned (.tuple #[.pointer (some ⟨pk, 0, none⟩), .bool true]) ∧ StartOut cfg V pk w') := hide (fun V => copen_ok cfg _ V hc h24 rfl)
  have HPA := hide hpl
  have HOR := hide hO
  clear hc h24 hn0 hn1 hp0 hp1 hpl hO hs hM
  obtain ⟨W, hW, hkW, hA⟩ : ∃ W, w.alloc (.cells #[.int .i64 (cfg.nodes : Int), .int .i64 (cfg.variant : Int), .int .i64 (cfg.ring : Int), .int .i64 (cfg.per : Int), .int .i64 (cfg.patience : Int)] 29) = W ∧ Keeps (fun _ => False) w W ∧ W.heap[w.heap.size]? = some (.cells #[.int .i64 (cfg.nodes : Int), .int .i64 (cfg.variant : Int), .int .i64 (cfg.ring : Int), .int .i64 (cfg.per : Int), .int .i64 (cfg.patience : Int)] 29 (0, 0)) := ⟨_, rfl, (Keeps.refl _ w).alloc _, heap_alloc_new _ _⟩
  have a0 := cell_of_heap (o := 0) hA
  have a1 := cell_of_heap (o := 1) hA
  have a2 := cell_of_heap (o := 2) hA
  have a3 := cell_of_heap (o := 3) hA
  have a4 := cell_of_heap (o := 4) hA
  simp at a0 a1 a2 a3 a4
  have hwl := lt_of_heap hA
  unfold cfgV
  go_enter Tryz.func7, Tryz.ntmps7
  go_wp2_with fail
  generalize hX : World.alloc W _ = V
  have hkV : Keeps (fun _ => False) W V := by rw [← hX]; exact (Keeps.refl _ W).alloc _
  have hop := unhide HOP V
  have hAV := hkV.heap hA (fun f => f)
  have hVl := hkV.size
  clear hX a0 a1 a2 a3 a4
  go_at_call 16
  refine hop.mono ?_
  rintro e w1 ⟨pk, rfl, T, K, hK, hSt, hnet, htr, hTo, hk1⟩
  have hA1 := hk1.heap hAV (fun f => f)
  have hsz1 := hk1.size
  have HK : Hid (KAt T w1 pk K 1 ∧ Started cfg cfg.nodes K.ns ∧ K.net = [] ∧ K.trace = [] ∧ (∀ k, k < V.heap.size → T k = .other)) := hide ⟨hK, hSt, hnet, htr, hTo⟩
  have HR0 : Hid (BitsRel w1 s 0 (.slice none 0 0) w1) := hide ⟨World.ownsRow_nil _ _ _ _, Keeps.refl _ _, fun k e => by simp [Value.ownBlock] at e⟩
  clear hK hSt hnet htr hTo hop HOP
  have b0 := cell_of_heap (o := 0) hA1
  simp at b0
  have hwl1 : w.heap.size < w1.heap.size := by omega
  go_wp2_with fail
  go_at_call 17
  refine (hpk1 _).mono ?_
  rintro e w1' ⟨rfl, hw⟩
  rw [hw]
  clear hw w1'
  go_wp2_with fail
  go_at_call 17
  refine (hpk2 _).mono ?_
  rintro e w1' ⟨rfl, hw⟩
  rw [hw]
  clear hw w1'
  clear hpk1 hpk2 hsh
  go_wp2
  go_loopw [12, 13] (fun v i wr => ∃ j : Nat, j ≤ cfg.nodes ∧ i = .int .i64 (j : Int) ∧ Hid (BitsRel w1 s j v wr)) (fun _ i _ => cfg.nodes - (intOf i).toNat)
  case atStart => exact ⟨0, by omega, rfl, HR0⟩
  case round =>
    obtain ⟨j, hj, rfl, HR⟩ := hrel
    have hR := unhide HR
    have hAr := hR.2.1.heap hA1 (fun f => f)
    have r0 := cell_of_heap (o := 0) hAr
    simp at r0
    have hszr := hR.2.1.size
    by_cases hlt : j < cfg.nodes
    · have hlt' : (j : Int) < (cfg.nodes : Int) := by omega
      have hs1 := fun W => run_shrI1 W s j (by omega)
      have HBQ := hide (bit_eq s j)
      generalize s / 2 ^ j = x at hs1 HBQ
      have hs2 := fun W => run_remI W x
      generalize x % 2 = y at hs2 HBQ
      cases hb : s.testBit j with
      | false =>
        rw [hb] at HBQ
        have hy := unhide HBQ
        have HB := hide hb
        clear hb hR hAr
        go_wp2_with fail
        go_roundw
        case rel => exact ⟨j + 1, by omega, by go_num, hide (by have := unhide HR; unfold BitsRel at *; rw [bits_no (unhide HB)]; exact this)⟩
        case measure => simp [intOf]; omega
      | true =>
        rw [hb] at HBQ
        have hy := unhide HBQ
        have hbl' := bits_len s j
        obtain ⟨g, cap', W', hr, HQ⟩ := run_appI wr u12 (icell j) _ _ rfl hR.1 (by omega)
        have HS := hide (hR.step hb (unhide HQ).1 (unhide HQ).2.1 (unhide HQ).2.2.1)
        rw [show icell j = .int .i64 (j : Int) from rfl] at hr
        clear hb hR hAr
        go_wp2_with fail
        go_roundw
        case rel => exact ⟨j + 1, by omega, by go_num, HS⟩
        case measure => simp [intOf]; omega
    · obtain rfl : j = cfg.nodes := by omega
      obtain ⟨hK, hSt, hnet, htr, hTo⟩ := unhide HK
      have hK2 : KAt T wr pk K 1 := by
        obtain ⟨vr, vn, vt, g⟩ := hK
        exact ⟨vr, vn, vt, g.keep hR.2.1 (fun _ _ => rfl) (fun _ _ _ f => f)⟩
      have hbg := run_begin (v := u12) ho hK2 (by omega) hSt hnet htr (hR.ints h4.2) hofl
      obtain ⟨gb, gc, hu⟩ : ∃ gb gc, u12 = .slice gb (members s).length gc := by
        rcases hR.1.2 with ⟨h1, h2⟩ | ⟨g, c', cur, h1, _⟩
        · exact ⟨_, _, by rw [h1, ← hbl, h2]⟩
        · exact ⟨_, _, by rw [h1, ← hbl]⟩
      subst hu
      clear hK hSt hnet htr hK2
      unfold txv pubT at hbg
      simp only [] at hbg
      go_wp2_with fail
      go_at_call 18
      refine hbg.mono ?_
      rintro e w3 ⟨rfl, hrun⟩
      have hk3 := hrun.keeps
      have hA3 := hk3.heap hAr (fun e => e (hTo _ (by omega)))
      have hKW3 : Keeps (fun k => w.heap.size ≤ k) w w3 := ((((hkW.trans hkV (fun _ _ f => f)).trans hk1 (fun _ _ f => f)).trans hR.2.1 (fun _ _ f => f)).mono (T := fun k => w.heap.size ≤ k) (fun _ _ f => f.elim)).trans hk3 (fun k hk e => by have := hTo k (by omega); exact absurd this e)
      clear hbg hk3
      go_wp2
      generalize hX : World.alloc w3 _ = w4
      have hk4 : Keeps (fun _ => False) w3 w4 := by rw [← hX]; exact (Keeps.refl _ w3).alloc _
      have hD : w4.heap[w3.heap.size]? = some (.cells #[.int .i64 (c : Int), .int .i64 1, .int .i64 1] 38 (0, 0)) := by rw [← hX]; exact heap_alloc_new _ _
      clear hX
      obtain ⟨T', e1, e2, hrun4⟩ := hrun.rebase hk4
      have hA4 := hk4.heap hA3 (fun f => f)
      have hKW4 : Keeps (fun k => w.heap.size ≤ k) w w4 := hKW3.trans (hk4.mono (T := fun k => w.heap.size ≤ k) (fun _ _ f => f.elim)) (fun _ _ e => e)
      have HT : Hid ((∀ k, k ≤ w.heap.size → T' k = .other) ∧ T' w3.heap.size = .other) := hide ⟨fun k hk => (e1 k (by omega)).trans (hTo k (by omega)), e2 _ (Nat.le_refl _)⟩
      have HR4 : Hid (KRun cfg c s T' w4 pk (20 - 0) w4) := hide hrun4
      clear hrun hrun4 e1 e2 hTo hKW3 hk4 hA3
      go_loopw [16, 17, 18] (fun i _ _ wr => ∃ j : Nat, j ≤ 20 ∧ i = .int .i64 (j : Int) ∧ Hid (KRun cfg c s T' w4 pk (20 - j) wr)) (fun i _ _ _ => 20 - (intOf i).toNat)
      case atStart => exact ⟨0, by omega, rfl, HR4⟩
      case round =>
        obtain ⟨j, hj, rfl, HRJ⟩ := hrel
        have hj100 : (j : Int) < 100 := by omega
        have hnt := run_net ho (unhide HRJ)
        go_wp2_with fail
        go_at_call 19
        refine hnt.mono ?_
        rintro e w5 ⟨b, q, z, rfl, hq, hor⟩
        rcases hor with ⟨rfl, hov⟩ | ⟨hq0, hx0, hrn, hdel⟩
        · have hk5 := hov.keeps
          have hA5 := hk5.heap hA4 (fun e => e ((unhide HT).1 _ (Nat.le_refl _)))
          have hD5 := hk5.heap hD (fun e => e (unhide HT).2)
          have hco := kcosts_ok ho hov
          have HF : Hid (Keeps (fun k => w.heap.size ≤ k) w w5) := hide (hKW4.trans hk5 (fun k hk e => absurd ((unhide HT).1 k (by omega)) e))
          have a0 := cell_of_heap (o := 0) hA5
          have a1 := cell_of_heap (o := 1) hA5
          have a2 := cell_of_heap (o := 2) hA5
          have a3 := cell_of_heap (o := 3) hA5
          have a4 := cell_of_heap (o := 4) hA5
          have d0 := cell_of_heap (o := 0) hD5
          have d1 := cell_of_heap (o := 1) hD5
          have d2 := cell_of_heap (o := 2) hD5
          simp at a0 a1 a2 a3 a4 d0 d1 d2
          unfold cfgV txv pubT at hco
          simp only [] at hco
          clear hk5 hov hnt hA5 hD5
          go_wp2_with fail
          go_at_call 21
          refine hco.mono ?_
          rintro e w9 ⟨rfl, hk9⟩
          have HE : Hid (Keeps (fun k => w.heap.size ≤ k) w w9) := hide ((unhide HF).trans (hk9.mono (T := fun k => w.heap.size ≤ k) (fun _ _ f => f.elim)) (fun _ _ e => e))
          clear hco hk9
          go_wp2
          go_ret
          exact ⟨rfl, unhide HE⟩
        · have hk5 := hrn.keeps
          have hqne : ¬ q = 0 := by omega
          clear hnt
          by_cases hlo : j < len
          · obtain ⟨g, o, x, rfl, hgl, hx0', hx1, hcell⟩ := unhide HOR j hlo
            have hcell5 : w5.cell? ⟨g, o + j, none⟩ = some (.int .i64 x) := hk5.cell' (hKW4.cell' hcell (by show ¬ w.heap.size ≤ g; omega)) (fun e => e ((unhide HT).1 g (by omega)))
            have hpk := fun W => kpick_any x q W hx0' hx1 hq0 (by omega)
            have hpl := pickOf_lt x q hq0
            have hdl := hdel _ hpl w5 (Keeps.refl _ _)
            have h0 : (0 : Int) ≤ (j : Int) := Int.natCast_nonneg _
            have hlt' : (j : Int) < (len : Int) := by omega
            generalize pickOf x q = at' at *
            clear hdel hcell hk5 hrn
            go_wp2_with fail
            go_at_call 17
            refine (hpk _).mono ?_
            rintro e w6 ⟨rfl, hw⟩
            rw [hw]
            clear hw w6 hpk
            go_wp2_with fail
            go_at_call 20
            refine hdl.mono ?_
            rintro e w7 ⟨rfl, h7⟩
            have HN : Hid (KRun cfg c s T' w4 pk (20 - (j + 1)) w7) := hide (by rw [Nat.sub_add_eq]; exact h7)
            clear h7 hdl
            go_wp2_with fail
            go_roundw
            case rel => exact ⟨j + 1, by omega, by go_num, HN⟩
            case measure => simp [intOf]; omega
          · have hlt' : ¬ (j : Int) < (len : Int) := by omega
            have hdl := hdel 0 hq0 w5 (Keeps.refl _ _)
            clear hdel hk5 hrn
            go_wp2_with fail
            go_at_call 20
            refine hdl.mono ?_
            rintro e w7 ⟨rfl, h7⟩
            have HN : Hid (KRun cfg c s T' w4 pk (20 - (j + 1)) w7) := hide (by rw [Nat.sub_add_eq]; exact h7)
            clear h7 hdl
            go_wp2_with fail
            go_roundw
            case rel => exact ⟨j + 1, by omega, by go_num, HN⟩
            case measure => simp [intOf]; omega

end Go.Proofs.YthbmmbgkchiajaaGreat

/- The arguments of Published, opened. -/
namespace Go.Proofs.YthbmmbgkchiajaaGreat
set_option linter.unusedSimpArgs false
set_option linter.unusedVariables false
open Go.RowKit

theorem reach_eq : reachBytes = 140737488351232 := rfl
theorem cells_int : Tryz.prog.cellsOf 3 = 1 := by kernel_rfl
theorem cells_cfg : Tryz.prog.cellsOf 29 = 5 := by kernel_rfl
theorem bytes_int : Tryz.prog.bytesOf 3 = 8 := by kernel_rfl

theorem list5 {α : Type} {l : List α} (h : l.length = 5) : ∃ a b c d e, l = [a, b, c, d, e] := by
  match l, h with
  | [a, b, c, d, e], _ => exact ⟨a, b, c, d, e, rfl⟩
theorem block_of_cell {w : World} {a : Addr} {v : Value} (h : w.cell? a = some v) : a.block < w.heap.size :=
  World.cells?_block (base := 0) (ChangeShapes.cells?_one (Nat.zero_le _) h) Nat.one_pos
theorem add_none (b o n : Nat) : (⟨b, o, none⟩ : Addr).add n = ⟨b, o + n, none⟩ := by
  unfold Addr.add
  by_cases h : n = 0
  · subst h; rfl
  · rw [if_neg h]
theorem of_wf {n : Int} (h : (Lit.int .i64 n).wf = true) : -9223372036854775808 ≤ n ∧ n ≤ 9223372036854775807 := by
  have h' : (decide ((-9223372036854775808 : Int) ≤ n) && decide (n ≤ 9223372036854775807)) = true := h
  rw [Bool.and_eq_true, decide_eq_true_eq, decide_eq_true_eq] at h'
  exact h'

section
variable {H : Type} {enc : TypeId × Value → H} {W : World} {base : Nat} {held : Bool}

theorem int_at {n : Nat} {v : Value} {d : DataW H} {pl : List MemPlace} (h : DataW.trod enc Tryz.prog W base (fun _ => true) held n 3 [v] = some (d, pl)) : ∃ x : Int, v = .int .i64 x ∧ -9223372036854775808 ≤ x ∧ x ≤ 9223372036854775807 := by
  obtain ⟨k, hk, _, wk⟩ := DataW.trod_int Tryz.underlying3 h
  simp only [List.cons.injEq, and_true] at hk
  exact ⟨k, hk, (of_wf wk).1, (of_wf wk).2⟩

theorem cfg_is {n : Nat} {cs : Array Value} {x : DataW H × List MemPlace} (h : DataW.trod enc Tryz.prog W base (fun _ => true) held n 29 cs.toList = some x) : ∃ a b c d e : Int, cs = #[.int .i64 a, .int .i64 b, .int .i64 c, .int .i64 d, .int .i64 e] := by
  obtain ⟨xs, q, _, _, hl, hlen, hf⟩ := DataW.trod_struct Tryz.underlying29 h
  obtain ⟨c0, c1, c2, c3, c4, hcs⟩ := list5 (hl.trans cells_cfg)
  obtain ⟨x0, x1, x2, x3, x4, rfl⟩ := list5 hlen
  rw [hcs] at hf
  have f0 : DataW.trod enc Tryz.prog W base (fun _ => true) held q 3 [c0] = some x0 := by simpa [cells_int] using hf 0 _ rfl
  have f1 : DataW.trod enc Tryz.prog W base (fun _ => true) held q 3 [c1] = some x1 := by simpa [cells_int] using hf 1 _ rfl
  have f2 : DataW.trod enc Tryz.prog W base (fun _ => true) held q 3 [c2] = some x2 := by simpa [cells_int] using hf 2 _ rfl
  have f3 : DataW.trod enc Tryz.prog W base (fun _ => true) held q 3 [c3] = some x3 := by simpa [cells_int] using hf 3 _ rfl
  have f4 : DataW.trod enc Tryz.prog W base (fun _ => true) held q 3 [c4] = some x4 := by simpa [cells_int] using hf 4 _ rfl
  clear hf
  obtain ⟨k, hk, _, _⟩ := DataW.trod_int Tryz.underlying3 f0
  obtain ⟨a, ha, _, _⟩ := DataW.trod_int Tryz.underlying3 f1
  obtain ⟨b, hb, _, _⟩ := DataW.trod_int Tryz.underlying3 f2
  obtain ⟨c, hcc, _, _⟩ := DataW.trod_int Tryz.underlying3 f3
  obtain ⟨d, hd, _, _⟩ := DataW.trod_int Tryz.underlying3 f4
  simp only [List.cons.injEq, and_true] at hk ha hb hcc hd
  subst hk ha hb hcc hd
  exact ⟨k, a, b, c, d, by rw [← Array.toList_inj, hcs]⟩

/-- What is told of the order. -/
theorem ord_at {n : Nat} {ao : Option Addr} {len cap : Nat} {d : DataW H} {pl : List MemPlace} (h : DataW.trod enc Tryz.prog W base (fun _ => true) held n 25 [.slice ao len cap] = some (d, pl)) (hw : ∀ m ∈ d.weights Tryz.prog 25, m ≤ reachBytes) :
    len ≤ 4611686018427387904 ∧ OrdAt W ao len := by
  rcases Go.Deep.open_slice1 Tryz.underlying25 cells_int h with ⟨h0, _⟩ | ⟨a, len', cap', m, q, V, D, Pl, h0, _, hl, _, hm, hx, hc⟩
  · simp only [List.cons.injEq, Value.slice.injEq, and_true] at h0
    obtain ⟨rfl, rfl, rfl⟩ := h0
    exact ⟨by omega, fun i hi => absurd hi (Nat.not_lt_zero _)⟩
  · simp only [List.cons.injEq, Value.slice.injEq, and_true] at h0
    obtain ⟨rfl, rfl, rfl⟩ := h0
    have hd : d = .slice ((List.range len).map D) ((List.range (m - len)).map fun j => D (len + j)) := congrArg Prod.fst hx
    subst hd
    have hlen : len ≤ 140737488351232 := by
      have := hw ((((List.range len).map D).length + ((List.range (m - len)).map fun j => D (len + j)).length) * Tryz.prog.bytesOf 3) (by simp only [DataW.weights, Tryz.underlying25]; exact List.mem_cons_self)
      rw [bytes_int, reach_eq, List.length_map, List.length_range] at this
      omega
    refine ⟨by omega, fun i hi => ?_⟩
    obtain ⟨c1, c2⟩ := hc i (by rw [hm]; simp; omega)
    obtain ⟨x, hx', _, wx⟩ := DataW.trod_int Tryz.underlying3 c2
    obtain hx' : V i = .int .i64 x := by simpa using hx'
    obtain ⟨b, o, sp⟩ := a
    obtain ⟨c10, _⟩ := hc 0 (by rw [hm]; simp; omega)
    have hsp : sp = none := by simpa [Addr.add] using World.cell?_spot c10
    subst hsp
    rw [hx', add_none] at c1
    exact ⟨b, o, x, rfl, block_of_cell c1, (of_wf wx).1, (of_wf wx).2, c1⟩
end

/-- A right configuration in plain numbers. -/
theorem right_is {n v r p t : Int} (h : rightC n v r p t = true) : ∃ cfg : Cfg, CfgOk cfg ∧ 24 ≤ cfg.ring * cfg.per ∧ n = (cfg.nodes : Int) ∧ v = (cfg.variant : Int) ∧ r = (cfg.ring : Int) ∧ p = (cfg.per : Int) ∧ t = (cfg.patience : Int) := by
  unfold rightC at h
  simp only [Bool.and_eq_true, decide_eq_true_eq] at h
  obtain ⟨⟨⟨⟨⟨h1, h2⟩, h3⟩, h4⟩, h5⟩, h6⟩ := h
  refine ⟨⟨n.toNat, v.toNat, r.toNat, p.toNat, t.toNat⟩, ⟨?_, ?_, ?_, ?_, ?_⟩, ?_, ?_, ?_, ?_, ?_, ?_⟩ <;> simp only [] <;> first | omega | skip
  have e : ((r.toNat * p.toNat : Nat) : Int) = r * p := by
    rw [Int.natCast_mul, Int.toNat_of_nonneg (by omega), Int.toNat_of_nonneg (by omega)]
  omega

theorem published_any (n v r p t node parts : Int) (ao : Option Addr) (len cap : Nat) (w : World) (hn0 : -9223372036854775808 ≤ node) (hn1 : node ≤ 9223372036854775807) (hp0 : -9223372036854775808 ≤ parts) (hp1 : parts ≤ 9223372036854775807) (hlen : len ≤ 4611686018427387904) (hO : OrdAt w ao len) :
    Calls Tryz.prog 7 #[.agg #[.int .i64 n, .int .i64 v, .int .i64 r, .int .i64 p, .int .i64 t], .int .i64 node, .int .i64 parts, .slice ao len cap] w fun e w' => e = .returned (.bool true) ∧ Below w.heap.size w w' := by
  cases h : rightC n v r p t with
  | false =>
    refine (publ_bad n v r p t node parts (.slice ao len cap) w h).mono ?_
    rintro e w' ⟨rfl, hk⟩
    exact ⟨rfl, (hk.mono (T := fun k => w.heap.size ≤ k) (fun _ _ f => f.elim)).below (Nat.le_refl _)⟩
  | true =>
    obtain ⟨cfg, hc, h24, rfl, rfl, rfl, rfl, rfl⟩ := right_is h
    refine (publ_ok cfg node parts ao len cap w hc h24 hn0 hn1 hp0 hp1 hlen hO).mono ?_
    rintro e w' ⟨rfl, hk⟩
    exact ⟨rfl, hk.below (Nat.le_refl _)⟩

end Go.Proofs.YthbmmbgkchiajaaGreat
