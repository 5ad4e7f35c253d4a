
/- What each node has spent is looked at. -/
import Derived.Test.YthbmmbgkchiajaaGreatKCosts
namespace Go.Proofs.YthbmmbgkchiajaaGreat
set_option linter.unusedSimpArgs false
set_option linter.unusedVariables false
open Go.RowKit

/-- The boxes of the look, in memory from block b on. -/
structure CostRel (w1 : World) (nodes c lf ll ls pf pl ps : Nat) (wr : World) : Prop where
  keep : Keeps (fun _ => False) w1 wr
  size : w1.heap.size + 4 ≤ wr.heap.size
  cfg : wr.cell? ⟨w1.heap.size, 0, none⟩ = some (.int .i64 (nodes : Int))
  t0 : wr.cell? ⟨w1.heap.size + 1, 0, none⟩ = some (.int .i64 (c : Int))
  t1 : wr.cell? ⟨w1.heap.size + 1, 1, none⟩ = some (.int .i64 1)
  t2 : wr.cell? ⟨w1.heap.size + 1, 2, none⟩ = some (.int .i64 1)
  l0 : wr.cell? ⟨w1.heap.size + 1 + 1, 0, none⟩ = some (.int .i64 (lf : Int))
  l1 : wr.cell? ⟨w1.heap.size + 1 + 1, 1, none⟩ = some (.int .i64 (ll : Int))
  l2 : wr.cell? ⟨w1.heap.size + 1 + 1, 2, none⟩ = some (.int .i64 (ls : Int))
  p0 : wr.cell? ⟨w1.heap.size + 1 + 1 + 1, 0, none⟩ = some (.int .i64 (pf : Int))
  p1 : wr.cell? ⟨w1.heap.size + 1 + 1 + 1, 1, none⟩ = some (.int .i64 (pl : Int))
  p2 : wr.cell? ⟨w1.heap.size + 1 + 1 + 1, 2, none⟩ = some (.int .i64 (ps : Int))
theorem CostRel.still {w1 wr w2 : World} {nodes c lf ll ls pf pl ps : Nat} (h : CostRel w1 nodes c lf ll ls pf pl ps wr) (hk : Keeps (fun _ => False) wr w2) : CostRel w1 nodes c lf ll ls pf pl ps w2 :=
  ⟨h.keep.trans hk (fun _ _ f => f), Nat.le_trans h.size hk.size, hk.cell' h.cfg (fun f => f), hk.cell' h.t0 (fun f => f), hk.cell' h.t1 (fun f => f), hk.cell' h.t2 (fun f => f), hk.cell' h.l0 (fun f => f), hk.cell' h.l1 (fun f => f), hk.cell' h.l2 (fun f => f), hk.cell' h.p0 (fun f => f), hk.cell' h.p1 (fun f => f), hk.cell' h.p2 (fun f => f)⟩
theorem CostRel.first (w1 : World) (nodes c lf ll ls pf pl ps : Nat) (v r p t : Value) : CostRel w1 nodes c lf ll ls pf pl ps ((((w1.alloc (.cells #[.int .i64 (nodes : Int), v, r, p, t] 29)).alloc (.cells #[.int .i64 (c : Int), .int .i64 1, .int .i64 1] 38)).alloc (.cells #[.int .i64 (lf : Int), .int .i64 (ll : Int), .int .i64 (ls : Int)] 105)).alloc (.cells #[.int .i64 (pf : Int), .int .i64 (pl : Int), .int .i64 (ps : Int)] 105)) := by
  obtain ⟨W1, h1⟩ : ∃ W, w1.alloc (.cells #[.int .i64 (nodes : Int), v, r, p, t] 29) = W := ⟨_, rfl⟩
  rw [h1]
  obtain ⟨W2, h2⟩ : ∃ W, W1.alloc (.cells #[.int .i64 (c : Int), .int .i64 1, .int .i64 1] 38) = W := ⟨_, rfl⟩
  rw [h2]
  obtain ⟨W3, h3⟩ : ∃ W, W2.alloc (.cells #[.int .i64 (lf : Int), .int .i64 (ll : Int), .int .i64 (ls : Int)] 105) = W := ⟨_, rfl⟩
  rw [h3]
  obtain ⟨W4, h4⟩ : ∃ W, W3.alloc (.cells #[.int .i64 (pf : Int), .int .i64 (pl : Int), .int .i64 (ps : Int)] 105) = W := ⟨_, rfl⟩
  rw [h4]
  have s1 : W1.heap.size = w1.heap.size + 1 := by rw [← h1]; simp
  have s2 : W2.heap.size = w1.heap.size + 1 + 1 := by rw [← h2]; simp [s1]
  have s3 : W3.heap.size = w1.heap.size + 1 + 1 + 1 := by rw [← h3]; simp [s2]
  have s4 : W4.heap.size = w1.heap.size + 1 + 1 + 1 + 1 := by rw [← h4]; simp [s3]
  have k1 : Keeps (fun _ => False) w1 W1 := by rw [← h1]; exact (Keeps.refl _ _).alloc _
  have k2 : Keeps (fun _ => False) W1 W2 := by rw [← h2]; exact (Keeps.refl _ _).alloc _
  have k3 : Keeps (fun _ => False) W2 W3 := by rw [← h3]; exact (Keeps.refl _ _).alloc _
  have k4 : Keeps (fun _ => False) W3 W4 := by rw [← h4]; exact (Keeps.refl _ _).alloc _
  have o1 : W1.heap[w1.heap.size]? = some (.cells #[.int .i64 (nodes : Int), v, r, p, t] 29 (0, 0)) := by rw [← h1]; exact heap_alloc_new _ _
  have o2 : W2.heap[W1.heap.size]? = some (.cells #[.int .i64 (c : Int), .int .i64 1, .int .i64 1] 38 (0, 0)) := by rw [← h2]; exact heap_alloc_new _ _
  have o3 : W3.heap[W2.heap.size]? = some (.cells #[.int .i64 (lf : Int), .int .i64 (ll : Int), .int .i64 (ls : Int)] 105 (0, 0)) := by rw [← h3]; exact heap_alloc_new _ _
  have o4 : W4.heap[W3.heap.size]? = some (.cells #[.int .i64 (pf : Int), .int .i64 (pl : Int), .int .i64 (ps : Int)] 105 (0, 0)) := by rw [← h4]; exact heap_alloc_new _ _
  have o1' := k4.heap (k3.heap (k2.heap o1 (fun f => f)) (fun f => f)) (fun f => f)
  have o2' := k4.heap (k3.heap o2 (fun f => f)) (fun f => f)
  have o3' := k4.heap o3 (fun f => f)
  rw [s1] at o2'
  rw [s2] at o3'
  rw [s3] at o4
  refine ⟨((k1.trans k2 (fun _ _ f => f)).trans k3 (fun _ _ f => f)).trans k4 (fun _ _ f => f), by omega, ?_, ?_, ?_, ?_, ?_, ?_, ?_, ?_, ?_, ?_⟩
  · simpa using cell_of_heap (o := 0) o1'
  · simpa using cell_of_heap (o := 0) o2'
  · simpa using cell_of_heap (o := 1) o2'
  · simpa using cell_of_heap (o := 2) o2'
  · simpa using cell_of_heap (o := 0) o3'
  · simpa using cell_of_heap (o := 1) o3'
  · simpa using cell_of_heap (o := 2) o3'
  · simpa using cell_of_heap (o := 0) o4
  · simpa using cell_of_heap (o := 1) o4
  · simpa using cell_of_heap (o := 2) o4

attribute [local go_sem ↓] shrI_eq remI_eq neC_eq

set_option maxRecDepth 100000 in
set_option maxHeartbeats 2000000 in
theorem kcosts_ok {cfg : Cfg} {c s : Nat} {T : Nat → CTag} {w w1 : World} {pk : Nat} (ho : POk cfg c s) (h : KOver cfg c s T w pk w1) :
    Calls Tryz.prog 21 #[.pointer (some ⟨pk, 0, none⟩), cfgV cfg, .int .i64 (c : Int), .int .i64 (s : Int), .int .i64 (((members s).length : Nat) : Int), txv (pubT c)] w1 fun e w2 => e = .returned (.bool true) ∧ Keeps (fun _ => False) w1 w2 := by
  have h4 := ho.conf.nodes
  have hs16 := ho.lt
  have hm4 : (members s).length ≤ 4 := members_le s
  have HCO : Hid (∀ j w2, j < cfg.nodes → Keeps (fun _ => False) w1 w2 → Calls Tryz.prog 54 #[.pointer (some ⟨pk, 0, none⟩), .int .i64 (j : Int)] w2 fun e w3 => e = .returned (.tuple #[.agg #[.int .i64 ((wantF cfg c s j : Nat) : Int), .int .i64 ((wantL cfg c s j : Nat) : Int), .int .i64 ((wantS cfg c s j : Nat) : Int)], .int .i64 0]) ∧ Keeps (fun _ => False) w2 w3) := hide (fun j w2 hj hk => run_costs ho (h.still hk) hj)
  have HTR := hide (fun w2 (hk : Keeps (fun _ => False) w1 w2) => run_trace ho (h.still hk))
  clear h ho
  obtain ⟨m, hm⟩ : ∃ m, m = (members s).length := ⟨_, rfl⟩
  obtain ⟨lf, hlf⟩ : ∃ x, x = if cfg.variant = 3 then 2 else 1 := ⟨_, rfl⟩
  obtain ⟨ll, hll⟩ : ∃ x, x = if cfg.variant = 3 then 0 else 1 := ⟨_, rfl⟩
  obtain ⟨ls, hls⟩ : ∃ x, x = 2 * m := ⟨_, rfl⟩
  obtain ⟨pf, hpf⟩ : ∃ x, x = if cfg.variant = 3 then 1 else 2 := ⟨_, rfl⟩
  obtain ⟨pl, hpl⟩ : ∃ x, x = if cfg.variant = 3 then 1 else 0 := ⟨_, rfl⟩
  have HWN : Hid (∀ j, wantF cfg c s j = (if j = c then lf else 0) + (if s.testBit j then pf else 0) ∧ wantL cfg c s j = (if j = c then ll else 0) + (if s.testBit j then pl else 0) ∧ wantS cfg c s j = (if j = c then ls else 0) + (if s.testBit j then pf else 0)) := hide (fun j => by
    subst hlf hll hls hpf hpl hm
    exact ⟨rfl, rfl, rfl⟩)
  have b1 : lf ≤ 2 ∧ ll ≤ 1 ∧ ls ≤ 8 ∧ pf ≤ 2 ∧ pl ≤ 1 := by
    rw [hlf, hll, hls, hpf, hpl]
    refine ⟨?_, ?_, by omega, ?_, ?_⟩ <;> split <;> omega
  rw [← hm] at hm4 HTR ⊢
  have HF : Hid (∀ v r p t, CostRel w1 cfg.nodes c lf ll ls pf pl pf ((((w1.alloc (.cells #[.int .i64 (cfg.nodes : Int), v, r, p, t] 29)).alloc (.cells #[.int .i64 (c : Int), .int .i64 1, .int .i64 1] 38)).alloc (.cells #[.int .i64 (lf : Int), .int .i64 (ll : Int), .int .i64 (ls : Int)] 105)).alloc (.cells #[.int .i64 (pf : Int), .int .i64 (pl : Int), .int .i64 (pf : Int)] 105))) := hide (fun v r p t => CostRel.first w1 cfg.nodes c lf ll ls pf pl pf v r p t)
  have HM := hide hm
  have HLS := hide hls
  clear hm hls
  by_cases hv : cfg.variant = 3
  · have hv' : (cfg.variant : Int) = 3 := by omega
    rw [if_pos hv] at hlf hll hpf hpl
    have HL := hide (And.intro hlf (And.intro hll (And.intro hpf hpl)))
    clear hlf hll hpf hpl
    unfold cfgV txv pubT
    simp only []
    go_enter Tryz.func21, Tryz.ntmps21
    go_wp2
    go_loopw [15, 16, 17, 18] (fun i _ _ _ wr => ∃ j : Nat, j ≤ cfg.nodes ∧ i = .int .i64 (j : Int) ∧ Hid (CostRel w1 cfg.nodes c lf ll ls pf pl pf wr)) (fun i _ _ _ _ => cfg.nodes - (intOf i).toNat)
    case atStart =>
      refine ⟨0, by omega, rfl, hide ?_⟩
      obtain ⟨e1, e2, e3, e4⟩ := unhide HL
      have e5 := unhide HLS
      have := unhide HF (.int .i64 3) (.int .i64 (cfg.ring : Int)) (.int .i64 (cfg.per : Int)) (.int .i64 (cfg.patience : Int))
      rw [e1, e2, e3, e4, e5] at this ⊢
      simpa using this
    case round =>
      obtain ⟨j, hj, rfl, HR⟩ := hrel
      have hR := unhide HR
      have hsz := hR.size
      have cc := hR.cfg
      have hlz : w1.heap.size < wr.heap.size := by omega
      have hlz1 : w1.heap.size + 1 < wr.heap.size := by omega
      by_cases hlt : j < cfg.nodes
      · have hlt' : (j : Int) < (cfg.nodes : Int) := by omega
        have hs1 := fun W => run_shrI1 W s j (by omega)
        have HBQ := hide (bit_eq s j)
        have hwn := unhide HWN j
        generalize s / 2 ^ j = x at hs1 HBQ
        have hs2 := fun W => run_remI W x
        generalize x % 2 = y at hs2 HBQ
        have d0 := hR.l0
        have d1 := hR.l1
        have d2 := hR.l2
        have e0 := hR.p0
        have e1 := hR.p1
        have e2 := hR.p2
        have hne2 : w1.heap.size + 1 + 1 < wr.heap.size := by omega
        have hne3 : w1.heap.size + 1 + 1 + 1 < wr.heap.size := by omega
        have hcmp := run_neC
        by_cases hjc : j = c
        · subst hjc
          cases hb : s.testBit j with
          | true =>
            rw [hb] at HBQ hwn
            have hy := unhide HBQ
            go_wp2_with fail
            generalize hX : World.alloc wr _ = X
            have hkX : Keeps (fun _ => False) wr X := by rw [← hX]; exact (Keeps.refl _ wr).alloc _
            have hoX : X.heap[wr.heap.size]? = some (.cells #[.int .i64 ((lf : Int) + (pf : Int)), .int .i64 ((ll : Int) + (pl : Int)), .int .i64 ((ls : Int) + (pf : Int))] 105 (0, 0)) := by rw [← hX]; exact heap_alloc_new _ _
            have hcost := unhide HCO j X hlt (hR.keep.trans hkX (fun _ _ f => f))
            rw [hwn.1, hwn.2.1, hwn.2.2] at hcost
            simp only [reduceIte, if_true, if_false, Bool.false_eq_true, Nat.zero_add, Nat.add_zero, Int.natCast_add, Int.natCast_zero] at hcost
            clear hX
            go_at_call 54
            refine hcost.mono ?_
            rintro e w5 ⟨rfl, hk5⟩
            have o5 := hk5.heap hoX (fun f => f)
            have g0 := cell_of_heap (o := 0) o5
            have g1 := cell_of_heap (o := 1) o5
            have g2 := cell_of_heap (o := 2) o5
            simp at g0 g1 g2
            have hz5 := lt_of_heap o5
            have HN := hide (hR.still (hkX.trans hk5 (fun _ _ f => f)))
            clear hcost hk5 hkX hoX o5
            go_wp2_with fail
            go_roundw
            case rel => exact ⟨j + 1, by omega, by go_num, hide ((unhide HN).still ((Keeps.refl _ w5).alloc _))⟩
            case measure => simp [intOf]; omega
          | false =>
            rw [hb] at HBQ hwn
            have hy := unhide HBQ
            go_wp2_with fail
            generalize hX : World.alloc wr _ = X
            have hkX : Keeps (fun _ => False) wr X := by rw [← hX]; exact (Keeps.refl _ wr).alloc _
            have hoX : X.heap[wr.heap.size]? = some (.cells #[.int .i64 (lf : Int), .int .i64 (ll : Int), .int .i64 (ls : Int)] 105 (0, 0)) := by rw [← hX]; exact heap_alloc_new _ _
            have hcost := unhide HCO j X hlt (hR.keep.trans hkX (fun _ _ f => f))
            rw [hwn.1, hwn.2.1, hwn.2.2] at hcost
            simp only [reduceIte, if_true, if_false, Bool.false_eq_true, Nat.zero_add, Nat.add_zero, Int.natCast_add, Int.natCast_zero] at hcost
            clear hX
            go_at_call 54
            refine hcost.mono ?_
            rintro e w5 ⟨rfl, hk5⟩
            have o5 := hk5.heap hoX (fun f => f)
            have g0 := cell_of_heap (o := 0) o5
            have g1 := cell_of_heap (o := 1) o5
            have g2 := cell_of_heap (o := 2) o5
            simp at g0 g1 g2
            have hz5 := lt_of_heap o5
            have HN := hide (hR.still (hkX.trans hk5 (fun _ _ f => f)))
            clear hcost hk5 hkX hoX o5
            go_wp2_with fail
            go_roundw
            case rel => exact ⟨j + 1, by omega, by go_num, hide ((unhide HN).still ((Keeps.refl _ w5).alloc _))⟩
            case measure => simp [intOf]; omega
        · have hjc' : ((j : Int) == (c : Int)) = false := by rw [beq_eq_false_iff_ne]; omega
          cases hb : s.testBit j with
          | true =>
            rw [hb] at HBQ hwn
            have hy := unhide HBQ
            go_wp2_with fail
            generalize hX : World.alloc wr _ = X
            have hkX : Keeps (fun _ => False) wr X := by rw [← hX]; exact (Keeps.refl _ wr).alloc _
            have hoX : X.heap[wr.heap.size]? = some (.cells #[.int .i64 (pf : Int), .int .i64 (pl : Int), .int .i64 (pf : Int)] 105 (0, 0)) := by rw [← hX]; exact heap_alloc_new _ _
            have hcost := unhide HCO j X hlt (hR.keep.trans hkX (fun _ _ f => f))
            rw [hwn.1, hwn.2.1, hwn.2.2] at hcost
            simp only [hjc, if_true, if_false, Bool.false_eq_true, Nat.zero_add, Nat.add_zero, Int.natCast_add, Int.natCast_zero] at hcost
            clear hX
            go_at_call 54
            refine hcost.mono ?_
            rintro e w5 ⟨rfl, hk5⟩
            have o5 := hk5.heap hoX (fun f => f)
            have g0 := cell_of_heap (o := 0) o5
            have g1 := cell_of_heap (o := 1) o5
            have g2 := cell_of_heap (o := 2) o5
            simp at g0 g1 g2
            have hz5 := lt_of_heap o5
            have HN := hide (hR.still (hkX.trans hk5 (fun _ _ f => f)))
            clear hcost hk5 hkX hoX o5
            go_wp2_with fail
            go_roundw
            case rel => exact ⟨j + 1, by omega, by go_num, hide ((unhide HN).still ((Keeps.refl _ w5).alloc _))⟩
            case measure => simp [intOf]; omega
          | false =>
            rw [hb] at HBQ hwn
            have hy := unhide HBQ
            go_wp2_with fail
            generalize hX : World.alloc wr _ = X
            have hkX : Keeps (fun _ => False) wr X := by rw [← hX]; exact (Keeps.refl _ wr).alloc _
            have hoX : X.heap[wr.heap.size]? = some (.cells #[.int .i64 0, .int .i64 0, .int .i64 0] 105 (0, 0)) := by rw [← hX]; exact heap_alloc_new _ _
            have hcost := unhide HCO j X hlt (hR.keep.trans hkX (fun _ _ f => f))
            rw [hwn.1, hwn.2.1, hwn.2.2] at hcost
            simp only [hjc, if_true, if_false, Bool.false_eq_true, Nat.zero_add, Nat.add_zero, Int.natCast_add, Int.natCast_zero] at hcost
            clear hX
            go_at_call 54
            refine hcost.mono ?_
            rintro e w5 ⟨rfl, hk5⟩
            have o5 := hk5.heap hoX (fun f => f)
            have g0 := cell_of_heap (o := 0) o5
            have g1 := cell_of_heap (o := 1) o5
            have g2 := cell_of_heap (o := 2) o5
            simp at g0 g1 g2
            have hz5 := lt_of_heap o5
            have HN := hide (hR.still (hkX.trans hk5 (fun _ _ f => f)))
            clear hcost hk5 hkX hoX o5
            go_wp2_with fail
            go_roundw
            case rel => exact ⟨j + 1, by omega, by go_num, hide ((unhide HN).still ((Keeps.refl _ w5).alloc _))⟩
            case measure => simp [intOf]; omega
      · have htr := unhide HTR wr hR.keep
        have f0 := hR.t0
        have f1 := hR.t1
        have f2 := hR.t2
        have hnl : ¬ (j : Int) < (cfg.nodes : Int) := by omega
        unfold txv pubT at htr
        simp only [] at htr
        go_wp2_with fail
        go_at_call 23
        refine htr.mono ?_
        rintro e w6 ⟨v, rfl, hk6, hag⟩
        have hR6 := hR.still hk6
        have g0 := hR6.t0
        have g1 := hR6.t1
        have g2 := hR6.t2
        clear htr f0 f1 f2
        have hag1 := (hag w6 (Keeps.refl _ _)).1
        go_wp2_with fail
        go_at_call 35
        refine hag1.mono ?_
        rintro e w7 ⟨rfl, hk7⟩
        have hag2 := (hag w7 hk7).2
        have hR7 := hR6.still hk7
        clear hag hag1 g0 g1 g2
        have g0 := hR7.t0
        have g1 := hR7.t1
        have g2 := hR7.t2
        go_wp2_with fail
        go_at_call 35
        refine hag2.mono ?_
        rintro e w8 ⟨rfl, hk8⟩
        have HE := hide (hR7.still hk8).keep
        clear hag2 hk8
        go_wp2
        go_ret
        exact ⟨rfl, unhide HE⟩
  · have hv' : ¬ (cfg.variant : Int) = 3 := by omega
    rw [if_neg hv] at hlf hll hpf hpl
    have HL := hide (And.intro hlf (And.intro hll (And.intro hpf hpl)))
    clear hlf hll hpf hpl
    unfold cfgV txv pubT
    simp only []
    go_enter Tryz.func21, Tryz.ntmps21
    go_wp2
    go_loopw [15, 16, 17, 18] (fun i _ _ _ wr => ∃ j : Nat, j ≤ cfg.nodes ∧ i = .int .i64 (j : Int) ∧ Hid (CostRel w1 cfg.nodes c lf ll ls pf pl pf wr)) (fun i _ _ _ _ => cfg.nodes - (intOf i).toNat)
    case atStart =>
      refine ⟨0, by omega, rfl, hide ?_⟩
      obtain ⟨e1, e2, e3, e4⟩ := unhide HL
      have e5 := unhide HLS
      have := unhide HF (.int .i64 (cfg.variant : Int)) (.int .i64 (cfg.ring : Int)) (.int .i64 (cfg.per : Int)) (.int .i64 (cfg.patience : Int))
      rw [e1, e2, e3, e4, e5] at this ⊢
      simpa using this
    case round =>
      obtain ⟨j, hj, rfl, HR⟩ := hrel
      have hR := unhide HR
      have hsz := hR.size
      have cc := hR.cfg
      have hlz : w1.heap.size < wr.heap.size := by omega
      have hlz1 : w1.heap.size + 1 < wr.heap.size := by omega
      by_cases hlt : j < cfg.nodes
      · have hlt' : (j : Int) < (cfg.nodes : Int) := by omega
        have hs1 := fun W => run_shrI1 W s j (by omega)
        have HBQ := hide (bit_eq s j)
        have hwn := unhide HWN j
        generalize s / 2 ^ j = x at hs1 HBQ
        have hs2 := fun W => run_remI W x
        generalize x % 2 = y at hs2 HBQ
        have d0 := hR.l0
        have d1 := hR.l1
        have d2 := hR.l2
        have e0 := hR.p0
        have e1 := hR.p1
        have e2 := hR.p2
        have hne2 : w1.heap.size + 1 + 1 < wr.heap.size := by omega
        have hne3 : w1.heap.size + 1 + 1 + 1 < wr.heap.size := by omega
        have hcmp := run_neC
        by_cases hjc : j = c
        · subst hjc
          cases hb : s.testBit j with
          | true =>
            rw [hb] at HBQ hwn
            have hy := unhide HBQ
            go_wp2_with fail
            generalize hX : World.alloc wr _ = X
            have hkX : Keeps (fun _ => False) wr X := by rw [← hX]; exact (Keeps.refl _ wr).alloc _
            have hoX : X.heap[wr.heap.size]? = some (.cells #[.int .i64 ((lf : Int) + (pf : Int)), .int .i64 ((ll : Int) + (pl : Int)), .int .i64 ((ls : Int) + (pf : Int))] 105 (0, 0)) := by rw [← hX]; exact heap_alloc_new _ _
            have hcost := unhide HCO j X hlt (hR.keep.trans hkX (fun _ _ f => f))
            rw [hwn.1, hwn.2.1, hwn.2.2] at hcost
            simp only [reduceIte, if_true, if_false, Bool.false_eq_true, Nat.zero_add, Nat.add_zero, Int.natCast_add, Int.natCast_zero] at hcost
            clear hX
            go_at_call 54
            refine hcost.mono ?_
            rintro e w5 ⟨rfl, hk5⟩
            have o5 := hk5.heap hoX (fun f => f)
            have g0 := cell_of_heap (o := 0) o5
            have g1 := cell_of_heap (o := 1) o5
            have g2 := cell_of_heap (o := 2) o5
            simp at g0 g1 g2
            have hz5 := lt_of_heap o5
            have HN := hide (hR.still (hkX.trans hk5 (fun _ _ f => f)))
            clear hcost hk5 hkX hoX o5
            go_wp2_with fail
            go_roundw
            case rel => exact ⟨j + 1, by omega, by go_num, hide ((unhide HN).still ((Keeps.refl _ w5).alloc _))⟩
            case measure => simp [intOf]; omega
          | false =>
            rw [hb] at HBQ hwn
            have hy := unhide HBQ
            go_wp2_with fail
            generalize hX : World.alloc wr _ = X
            have hkX : Keeps (fun _ => False) wr X := by rw [← hX]; exact (Keeps.refl _ wr).alloc _
            have hoX : X.heap[wr.heap.size]? = some (.cells #[.int .i64 (lf : Int), .int .i64 (ll : Int), .int .i64 (ls : Int)] 105 (0, 0)) := by rw [← hX]; exact heap_alloc_new _ _
            have hcost := unhide HCO j X hlt (hR.keep.trans hkX (fun _ _ f => f))
            rw [hwn.1, hwn.2.1, hwn.2.2] at hcost
            simp only [reduceIte, if_true, if_false, Bool.false_eq_true, Nat.zero_add, Nat.add_zero, Int.natCast_add, Int.natCast_zero] at hcost
            clear hX
            go_at_call 54
            refine hcost.mono ?_
            rintro e w5 ⟨rfl, hk5⟩
            have o5 := hk5.heap hoX (fun f => f)
            have g0 := cell_of_heap (o := 0) o5
            have g1 := cell_of_heap (o := 1) o5
            have g2 := cell_of_heap (o := 2) o5
            simp at g0 g1 g2
            have hz5 := lt_of_heap o5
            have HN := hide (hR.still (hkX.trans hk5 (fun _ _ f => f)))
            clear hcost hk5 hkX hoX o5
            go_wp2_with fail
            go_roundw
            case rel => exact ⟨j + 1, by omega, by go_num, hide ((unhide HN).still ((Keeps.refl _ w5).alloc _))⟩
            case measure => simp [intOf]; omega
        · have hjc' : ((j : Int) == (c : Int)) = false := by rw [beq_eq_false_iff_ne]; omega
          cases hb : s.testBit j with
          | true =>
            rw [hb] at HBQ hwn
            have hy := unhide HBQ
            go_wp2_with fail
            generalize hX : World.alloc wr _ = X
            have hkX : Keeps (fun _ => False) wr X := by rw [← hX]; exact (Keeps.refl _ wr).alloc _
            have hoX : X.heap[wr.heap.size]? = some (.cells #[.int .i64 (pf : Int), .int .i64 (pl : Int), .int .i64 (pf : Int)] 105 (0, 0)) := by rw [← hX]; exact heap_alloc_new _ _
            have hcost := unhide HCO j X hlt (hR.keep.trans hkX (fun _ _ f => f))
            rw [hwn.1, hwn.2.1, hwn.2.2] at hcost
            simp only [hjc, if_true, if_false, Bool.false_eq_true, Nat.zero_add, Nat.add_zero, Int.natCast_add, Int.natCast_zero] at hcost
            clear hX
            go_at_call 54
            refine hcost.mono ?_
            rintro e w5 ⟨rfl, hk5⟩
            have o5 := hk5.heap hoX (fun f => f)
            have g0 := cell_of_heap (o := 0) o5
            have g1 := cell_of_heap (o := 1) o5
            have g2 := cell_of_heap (o := 2) o5
            simp at g0 g1 g2
            have hz5 := lt_of_heap o5
            have HN := hide (hR.still (hkX.trans hk5 (fun _ _ f => f)))
            clear hcost hk5 hkX hoX o5
            go_wp2_with fail
            go_roundw
            case rel => exact ⟨j + 1, by omega, by go_num, hide ((unhide HN).still ((Keeps.refl _ w5).alloc _))⟩
            case measure => simp [intOf]; omega
          | false =>
            rw [hb] at HBQ hwn
            have hy := unhide HBQ
            go_wp2_with fail
            generalize hX : World.alloc wr _ = X
            have hkX : Keeps (fun _ => False) wr X := by rw [← hX]; exact (Keeps.refl _ wr).alloc _
            have hoX : X.heap[wr.heap.size]? = some (.cells #[.int .i64 0, .int .i64 0, .int .i64 0] 105 (0, 0)) := by rw [← hX]; exact heap_alloc_new _ _
            have hcost := unhide HCO j X hlt (hR.keep.trans hkX (fun _ _ f => f))
            rw [hwn.1, hwn.2.1, hwn.2.2] at hcost
            simp only [hjc, if_true, if_false, Bool.false_eq_true, Nat.zero_add, Nat.add_zero, Int.natCast_add, Int.natCast_zero] at hcost
            clear hX
            go_at_call 54
            refine hcost.mono ?_
            rintro e w5 ⟨rfl, hk5⟩
            have o5 := hk5.heap hoX (fun f => f)
            have g0 := cell_of_heap (o := 0) o5
            have g1 := cell_of_heap (o := 1) o5
            have g2 := cell_of_heap (o := 2) o5
            simp at g0 g1 g2
            have hz5 := lt_of_heap o5
            have HN := hide (hR.still (hkX.trans hk5 (fun _ _ f => f)))
            clear hcost hk5 hkX hoX o5
            go_wp2_with fail
            go_roundw
            case rel => exact ⟨j + 1, by omega, by go_num, hide ((unhide HN).still ((Keeps.refl _ w5).alloc _))⟩
            case measure => simp [intOf]; omega
      · have htr := unhide HTR wr hR.keep
        have f0 := hR.t0
        have f1 := hR.t1
        have f2 := hR.t2
        have hnl : ¬ (j : Int) < (cfg.nodes : Int) := by omega
        unfold txv pubT at htr
        simp only [] at htr
        go_wp2_with fail
        go_at_call 23
        refine htr.mono ?_
        rintro e w6 ⟨v, rfl, hk6, hag⟩
        have hR6 := hR.still hk6
        have g0 := hR6.t0
        have g1 := hR6.t1
        have g2 := hR6.t2
        clear htr f0 f1 f2
        have hag1 := (hag w6 (Keeps.refl _ _)).1
        go_wp2_with fail
        go_at_call 35
        refine hag1.mono ?_
        rintro e w7 ⟨rfl, hk7⟩
        have hag2 := (hag w7 hk7).2
        have hR7 := hR6.still hk7
        clear hag hag1 g0 g1 g2
        have g0 := hR7.t0
        have g1 := hR7.t1
        have g2 := hR7.t2
        go_wp2_with fail
        go_at_call 35
        refine hag2.mono ?_
        rintro e w8 ⟨rfl, hk8⟩
        have HE := hide (hR7.still hk8).keep
        clear hag2 hk8
        go_wp2
        go_ret
        exact ⟨rfl, unhide HE⟩

end Go.Proofs.YthbmmbgkchiajaaGreat
