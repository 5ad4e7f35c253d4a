
/- Records and marks as bytes. -/
import Derived.Test.YthbmmbgkchiajaaGreatNPure

namespace Go.Proofs.YthbmmbgkchiajaaGreat
set_option linter.unusedSimpArgs false
set_option linter.unusedVariables false
open Go.RowKit

def ucell (b : UInt8) : Value := .int .u8 (b.toNat : Int)
theorem num4_cells (n : Nat) : (num4 n).map ucell = (List.range 4).map (byteCell n) := by
  unfold num4 byteCell ucell
  rw [show List.range 4 = [0, 1, 2, 3] from rfl]
  simp only [List.map_cons, List.map_nil, UInt8.toNat_ofNat', Nat.pow_zero, Nat.div_one]
theorem bcells_mk (l : List UInt8) : bcells ⟨l.toArray⟩ = l.map ucell := by unfold bcells ucell; rfl

/-- One byte more, onto a slice of one's own. -/
theorem run_app1 (W : World) (v x : Value) (n : Nat) (xs : List Value) (hx : x.oneCell' = true) (hown : W.ownsRow 0 5 1 v n xs) (hn : n ≤ 1000) :
    ∃ g cap W', (byApp #[v, .slice (some ⟨W.heap.size, 0, none⟩) 1 1]).run Tryz.prog (W.alloc (.cells #[x] 5)) = .ok (.slice (some ⟨g, 0, none⟩) (n + 1) cap) W' ∧ Hid (W'.ownsRow 0 5 1 (.slice (some ⟨g, 0, none⟩) (n + 1) cap) (n + 1) (xs ++ [x]) ∧ Keeps (fun k => v.ownBlock = some k) W W' ∧ (v.ownBlock = some g ∨ W.heap.size < g) ∧ n + 1 ≤ cap) := by
  obtain ⟨iB, hiB, hz0, hz1, hz2⟩ := info_parts infoU8
  have hkA : Keeps (fun _ => False) W (W.alloc (.cells #[x] 5)) := (Keeps.refl _ _).alloc _
  obtain ⟨v', W', r0, r1, r2, _, r4⟩ := run_append_own_at (P := Tryz.prog) (W.alloc (.cells #[x] 5)) 0 138 138 5 iB _ 1 1 Tryz.underlying138 hiB hz0 hz1 hz2 rfl (by omega) v n xs (hown.alloc _) ⟨W.heap.size, 0, none⟩ 1 1 [x] rfl
    (cell_one_new _ _ _) (fun u hu => by rw [List.mem_singleton] at hu; subst hu; exact hx) (by unfold maxLen; omega) (by omega) (Nat.zero_le _)
  rcases r1.2 with ⟨_, h0⟩ | ⟨g', c', cur, rfl, _, hg', hc', _, hsz, ht⟩
  · omega
  · refine ⟨g', c', W', r0, hide ⟨r1, ?_, ?_, hc'⟩⟩
    · exact (hkA.mono (T := fun k => v.ownBlock = some k) (fun _ _ f => f.elim)).grown r2 (fun k hk _ => hk)
    · rcases r4 with r4 | r4
      · exact .inl (by simpa [Value.ownBlock] using r4.symm)
      · refine .inr ?_
        simp only [Value.ownBlock, Option.some.injEq] at r4
        rw [r4]; simp

theorem byteCell_one (n i : Nat) : (byteCell n i).oneCell' = true := rfl
attribute [local go_sem ↓] byApp_eq shrI_eq toU8_eq

/-- Behind some bytes: v' holds them. -/
structure AppRel (w : World) (v : Value) (n : Nat) (xs : List Value) (ys : List Value) (v' : Value) (wr : World) : Prop where
  own : wr.ownsRow 0 5 1 v' (n + ys.length) (xs ++ ys)
  keep : Keeps (fun k => v.ownBlock = some k ∨ w.heap.size < k) w wr
  at_ : v'.ownBlock = v.ownBlock ∨ ∃ k, v'.ownBlock = some k ∧ w.heap.size < k

theorem AppRel.step {w wr W' : World} {v v' : Value} {n g cap : Nat} {xs ys : List Value} {x : Value} (h : AppRel w v n xs ys v' wr) (hsz : w.heap.size < wr.heap.size)
    (h1 : W'.ownsRow 0 5 1 (.slice (some ⟨g, 0, none⟩) (n + ys.length + 1) cap) (n + ys.length + 1) (xs ++ ys ++ [x])) (h2 : Keeps (fun k => v'.ownBlock = some k) wr W') (h3 : v'.ownBlock = some g ∨ wr.heap.size < g) :
    AppRel w v n xs (ys ++ [x]) (.slice (some ⟨g, 0, none⟩) (n + ys.length + 1) cap) W' := by
  refine ⟨?_, ?_, ?_⟩
  · rw [List.length_append, List.length_singleton, ← List.append_assoc]; exact h1
  · refine h.keep.trans h2 (fun i _ e => ?_)
    rcases h.at_ with q | ⟨k, q, hk⟩
    · exact .inl (q ▸ e)
    · rw [q] at e; cases e; exact .inr hk
  · rcases h3 with h3 | h3
    · rcases h.at_ with q | ⟨k, q, hk⟩
      · exact .inl (by rw [← q, h3]; rfl)
      · rw [q] at h3; cases h3; exact .inr ⟨_, rfl, hk⟩
    · exact .inr ⟨g, rfl, by omega⟩

set_option maxRecDepth 100000 in
set_option maxHeartbeats 800000 in
theorem appNums_any (v : Value) (n : Nat) (xs : List Value) (t : Tx) (w : World) (hown : w.ownsRow 0 5 1 v n xs) (hn : n ≤ 100) :
    Calls Tryz.prog 305 #[v, txv t] w fun e w' => ∃ v', e = .returned v' ∧ w'.ownsRow 0 5 1 v' (n + 8) (xs ++ (txB t).map ucell) ∧ Keeps (fun k => v.ownBlock = some k) w w' ∧ (v'.ownBlock = v.ownBlock ∨ ∃ k, v'.ownBlock = some k ∧ w.heap.size < k) := by
  have HT : Hid ((txB t).map ucell = (List.range 4).map (byteCell t.inc) ++ (List.range 4).map (byteCell t.seq)) := hide (by unfold txB; rw [List.map_append, num4_cells, num4_cells])
  unfold txv
  generalize txB t = tb at *
  obtain ⟨a1, a2, a3⟩ := t
  simp only at *
  have hvl : v.ownBlock ≠ some w.heap.size := fun e => by have := (hown.lt _ e).2; omega
  have HR0 : Hid (AppRel w v n xs [] v (w.alloc (.cells #[.int .i64 (a1 : Int), .int .i64 (a2 : Int), .int .i64 (a3 : Int)] 38))) := hide ⟨by simpa using hown.alloc _, (Keeps.refl _ w).alloc _, .inl rfl⟩
  have HA : Hid ((w.alloc (.cells #[.int .i64 (a1 : Int), .int .i64 (a2 : Int), .int .i64 (a3 : Int)] 38)).heap[w.heap.size]? = some (.cells #[.int .i64 (a1 : Int), .int .i64 (a2 : Int), .int .i64 (a3 : Int)] 38 (0, 0))) := hide (heap_alloc_new _ _)
  have HOWN := hide hown
  clear hown
  go_enter Tryz.func305, Tryz.ntmps305
  go_wp2
  go_loopw [0, 7] (fun v' i wr => ∃ j : Nat, j ≤ 4 ∧ i = .int .i64 j ∧ Hid (AppRel w v n xs ((List.range j).map (byteCell a2)) v' wr ∧ wr.heap[w.heap.size]? = some (.cells #[.int .i64 (a1 : Int), .int .i64 (a2 : Int), .int .i64 (a3 : Int)] 38 (0, 0)))) (fun _ i _ => 4 - (intOf i).toNat)
  case atStart => exact ⟨0, by omega, rfl, hide ⟨unhide HR0, unhide HA⟩⟩
  case round =>
    obtain ⟨j, hj, rfl, HR⟩ := hrel
    by_cases hlt : j < 4
    · obtain ⟨hR, hbx⟩ := unhide HR
      have c1 := cell_of_heap (o := 1) hbx
      simp at c1
      have h1 := run_shrI wr a2 j (by omega)
      have h2 := run_toU8 wr (a2 / 256 ^ j)
      have hyl : ((List.range j).map (byteCell a2)).length = j := by simp
      have hsz := lt_of_heap hbx
      obtain ⟨g, cap, W', hr, HQ⟩ := run_app1 wr u0 (byteCell a2 j) _ _ (byteCell_one _ _) hR.own (by rw [hyl]; omega)
      have hbx' : Hid (W'.heap[w.heap.size]? = some (.cells #[.int .i64 (a1 : Int), .int .i64 (a2 : Int), .int .i64 (a3 : Int)] 38 (0, 0))) := hide ((unhide HQ).2.1.heap hbx (fun e => by
        rcases hR.at_ with q | ⟨k, q, hk⟩
        · exact hvl (q ▸ e)
        · rw [q] at e; cases e; omega))
      have HS := hide (hR.step hsz (unhide HQ).1 (unhide HQ).2.1 (unhide HQ).2.2.1)
      rw [hyl] at hr HS
      rw [show byteCell a2 j = .int .u8 ((a2 / 256 ^ j % 256 : Nat) : Int) from rfl] at hr
      generalize a2 / 256 ^ j % 256 = bb at h2 hr
      generalize a2 / 256 ^ j = y at h1 h2
      have h0 : (0 : Int) ≤ (j : Int) := Int.natCast_nonneg _
      have hlt' : (j : Int) < 4 := by omega
      clear hR hbx
      go_wp2
      go_roundw
      case rel =>
        refine ⟨j + 1, by omega, by go_num, hide ⟨?_, unhide hbx'⟩⟩
        have := unhide HS
        rw [List.range_succ, List.map_append, List.map_singleton]
        exact this
      case measure => simp [intOf]; omega
    · have HJ := hide (show j = 4 by omega)
      go_wp2
      go_loopw [0, 20] (fun v' i wr => ∃ j : Nat, j ≤ 4 ∧ i = .int .i64 j ∧ Hid (AppRel w v n xs ((List.range 4).map (byteCell a2) ++ (List.range j).map (byteCell a3)) v' wr ∧ wr.heap[w.heap.size]? = some (.cells #[.int .i64 (a1 : Int), .int .i64 (a2 : Int), .int .i64 (a3 : Int)] 38 (0, 0)))) (fun _ i _ => 4 - (intOf i).toNat)
      case atStart =>
        refine ⟨0, by omega, rfl, ?_⟩
        have := HR
        rw [unhide HJ] at this
        simpa using this
      case round =>
        clear HR HJ
        rename_i j0 _ _ _
        obtain ⟨j, hj, rfl, HR⟩ := hrel
        by_cases hlt : j < 4
        · obtain ⟨hR, hbx⟩ := unhide HR
          have c1 := cell_of_heap (o := 2) hbx
          simp at c1
          have h1 := run_shrI wr a3 j (by omega)
          have h2 := run_toU8 wr (a3 / 256 ^ j)
          have hyl : ((List.range 4).map (byteCell a2) ++ (List.range j).map (byteCell a3)).length = 4 + j := by simp <;> omega
          have hsz := lt_of_heap hbx
          obtain ⟨g, cap, W', hr, HQ⟩ := run_app1 wr u0 (byteCell a3 j) _ _ (byteCell_one _ _) hR.own (by rw [hyl]; omega)
          have hbx' : Hid (W'.heap[w.heap.size]? = some (.cells #[.int .i64 (a1 : Int), .int .i64 (a2 : Int), .int .i64 (a3 : Int)] 38 (0, 0))) := hide ((unhide HQ).2.1.heap hbx (fun e => by
            rcases hR.at_ with q | ⟨k, q, hk⟩
            · exact hvl (q ▸ e)
            · rw [q] at e; cases e; omega))
          have HS := hide (hR.step hsz (unhide HQ).1 (unhide HQ).2.1 (unhide HQ).2.2.1)
          rw [hyl] at hr HS
          rw [show byteCell a3 j = .int .u8 ((a3 / 256 ^ j % 256 : Nat) : Int) from rfl] at hr
          generalize a3 / 256 ^ j % 256 = bb at h2 hr
          generalize a3 / 256 ^ j = y at h1 h2
          have h0 : (0 : Int) ≤ (j : Int) := Int.natCast_nonneg _
          have hlt' : (j : Int) < 4 := by omega
          clear hR hbx
          go_wp2
          go_roundw
          case rel =>
            refine ⟨j + 1, by omega, by go_num, hide ⟨?_, unhide hbx'⟩⟩
            have := unhide HS
            rw [List.range_succ (n := j), List.map_append, List.map_singleton, ← List.append_assoc]
            exact this
          case measure => simp [intOf]; omega
        · have HJ := hide (show j = 4 by omega)
          go_wp2
          go_ret
          have hR := (unhide HR).1
          rw [unhide HJ] at hR
          refine ⟨u0, rfl, ?_, ?_, hR.at_⟩
          · rw [unhide HT]
            have := hR.own
            rw [show ((List.range 4).map (byteCell a2) ++ (List.range 4).map (byteCell a3)).length = 8 by simp] at this
            exact this
          · exact hR.keep.mono (fun k hk e => e.resolve_right (by omega))

/-- A row of one's own, as bytes. -/
theorem Bytes.ofOwn {w : World} {v : Value} {l : List UInt8} (h : w.ownsRow 0 5 1 v l.length (l.map ucell)) {S : Nat → Prop} (hS : ∀ k, v.ownBlock = some k → S k) : Bytes S w v ⟨l.toArray⟩ := by
  rcases h.2 with ⟨rfl, h0⟩ | ⟨g', c', cur, rfl, _, hg', hc', _, hsz, ht⟩
  · have e : l = [] := List.eq_nil_of_length_eq_zero h0
    subst e
    exact ⟨none, 0, rfl, Nat.le_refl _, fun _ => rfl, fun a ha => by cases ha⟩
  · have hl : (⟨l.toArray⟩ : ByteArray).size = l.length := List.size_toArray
    rw [← hl] at hc' ⊢
    refine Bytes.row hg' (hS g' rfl) rfl hc' (fun j hj => ?_)
    rw [bcells_mk] at hj ⊢
    have := congrArg (fun l => l[j]?) ht
    simp only [Nat.mul_one] at this
    rw [List.length_map] at hj
    rw [List.getElem?_take, if_pos hj] at this
    rw [Nat.zero_add, ← this]; simp

def setU8 (x : Value) : Sem Value := convert 87 5 x
theorem setU8_eq (x : Value) : convert 87 5 x = setU8 x := rfl
theorem run_setU8 (W : World) (x : Nat) : (setU8 (.int .i64 (x : Int))).run Tryz.prog W = .ok (.int .u8 ((x % 256 : Nat) : Int)) W := by
  unfold setU8
  simp [go_sem, Tryz.underlying87, Tryz.underlying3, Tryz.underlying5]
  rw [IntKind.wrap_u8]
attribute [local go_sem ↓] setU8_eq

set_option maxRecDepth 100000 in
set_option maxHeartbeats 800000 in
theorem rPack_any (r : Rec) (w : World) :
    Calls Tryz.prog 280 #[.agg #[.int .i64 (r.kind : Int), .int .i64 (r.txn.coord : Int), .int .i64 (r.txn.inc : Int), .int .i64 (r.txn.seq : Int), .int .i64 (r.nodes : Int), .int .i64 (r.outcome : Int)]] w fun e w' => ∃ v, e = .returned v ∧ Bytes (fun k => w.heap.size ≤ k) w' v r.bytes ∧ Keeps (fun _ => False) w w' := by
  unfold Rec.bytes
  have happ := fun W v xs (h : W.ownsRow 0 5 1 v 4 xs) => appNums_any v 4 xs r.txn W h (by omega)
  unfold txv at happ
  obtain ⟨k, ⟨a1, a2, a3⟩, ns, oc⟩ := r
  simp only at *
  have u1 := fun W => run_toU8 W k
  have u2 := fun W => run_setU8 W ns
  have u3 := fun W => run_toU8 W oc
  have u4 := fun W => run_toU8 W a1
  have HC : Hid ([UInt8.ofNat k, UInt8.ofNat ns, UInt8.ofNat oc, UInt8.ofNat a1].map ucell = [.int .u8 ((k % 256 : Nat) : Int), .int .u8 ((ns % 256 : Nat) : Int), .int .u8 ((oc % 256 : Nat) : Int), .int .u8 ((a1 % 256 : Nat) : Int)]) := hide rfl
  generalize k % 256 = x1 at *
  generalize ns % 256 = x2 at *
  generalize oc % 256 = x3 at *
  generalize a1 % 256 = x4 at *
  go_enter Tryz.func280, Tryz.ntmps280
  go_wp2_with fail
  generalize hW : World.alloc (World.alloc w _) _ = W
  have hk : Keeps (fun _ => False) w W := by rw [← hW]; exact ((Keeps.refl _ w).alloc _).alloc _
  have hB : W.heap[w.heap.size + 1]? = some (.cells #[.int .u8 (x1 : Int), .int .u8 (x2 : Int), .int .u8 (x3 : Int), .int .u8 (x4 : Int)] 5 (0, 0)) := by
    rw [← hW]; exact heap_two _ _ _
  clear hW
  have hown : W.ownsRow 0 5 1 (.slice (some ⟨w.heap.size + 1, 0, none⟩) 4 4) 4 [.int .u8 (x1 : Int), .int .u8 (x2 : Int), .int .u8 (x3 : Int), .int .u8 (x4 : Int)] := ⟨rfl, .inr ⟨w.heap.size + 1, 4, _, rfl, Nat.zero_le _, hB, Nat.le_refl _, by unfold maxLen; omega, rfl, rfl⟩⟩
  go_wp2_with (go_at_call 305; refine (happ W _ _ hown).mono ?_; rintro e w1 ⟨v1, rfl, hv1, hk1, hat1⟩)
  go_ret
  refine ⟨v1, rfl, ?_, ?_⟩
  · refine Bytes.ofOwn (l := [UInt8.ofNat k, UInt8.ofNat ns, UInt8.ofNat oc, UInt8.ofNat a1] ++ txB ⟨a1, a2, a3⟩) ?_ (fun q hq => ?_)
    · rw [List.map_append, unhide HC]
      exact hv1
    · rcases hat1 with h | ⟨k', h, h'⟩
      · rw [h] at hq
        simp only [Value.ownBlock, Option.some.injEq] at hq
        omega
      · rw [h] at hq; cases hq
        have := hk.size
        omega
  · refine hk.trans (hk1.mono (T := fun k => k = w.heap.size + 1) (fun q _ e => ?_)) (fun q hq e => by omega)
    simp only [Value.ownBlock, Option.some.injEq] at e
    exact e.symm

def PackRel (w : World) (ms : List Tx) (j : Nat) (v : Value) (wr : World) : Prop := wr.ownsRow 0 5 1 v (j * 8) (((ms.take j).flatMap txB).map ucell) ∧ Keeps (fun _ => False) w wr ∧ ∀ k, v.ownBlock = some k → w.heap.size ≤ k

theorem PackRel.step {w wr W0 w1 : World} {ms : List Tx} {j : Nat} {v v1 : Value} (h : PackRel w ms j v wr) (hj : j < ms.length) (hk0 : Keeps (fun _ => False) wr W0)
    (h1 : w1.ownsRow 0 5 1 v1 (j * 8 + 8) (((ms.take j).flatMap txB).map ucell ++ (txB (ms.getD j tx0)).map ucell)) (h2 : Keeps (fun k => v.ownBlock = some k) W0 w1) (h3 : v1.ownBlock = v.ownBlock ∨ ∃ k, v1.ownBlock = some k ∧ W0.heap.size < k) : PackRel w ms (j + 1) v1 w1 := by
  refine ⟨?_, ?_, ?_⟩
  · rw [List.take_succ_eq_append_getElem hj, List.flatMap_append, List.map_append, Nat.add_mul]
    have e : ms.getD j tx0 = ms[j] := by simp [List.getD, hj]
    rw [e] at h1
    simpa using h1
  · have hk := h.2.1.trans hk0 (fun _ _ f => f.elim)
    refine hk.trans (h2.mono (T := fun k => w.heap.size ≤ k) (fun k _ e => h.2.2 k e)) (fun i hi e => by omega)
  · intro k hk
    rcases h3 with h3 | ⟨k', h3, h4⟩
    · exact h.2.2 k (h3 ▸ hk)
    · rw [h3] at hk; cases hk
      have := h.2.1.size
      have := hk0.size
      omega

set_option maxRecDepth 100000 in
set_option maxHeartbeats 800000 in
theorem mPack_any (p o : Nat) (ms : List Tx) (w : World) (h : MarksAt w p o ms) (hl : ms.length = 4) :
    Calls Tryz.prog 304 #[.pointer (some ⟨p, o, none⟩)] w fun e w' => ∃ v, e = .returned v ∧ Bytes (fun k => w.heap.size ≤ k) w' v (marksB ms) ∧ Keeps (fun _ => False) w w' := by
  have hpl := lt_of_cell (h 0 (by omega)).1
  simp only at hpl
  have HR0 : Hid (PackRel w ms 0 (.slice none 0 0) w) := hide ⟨World.ownsRow_nil _ _ _ _, Keeps.refl _ _, fun k e => by simp [Value.ownBlock] at e⟩
  have HM := hide h
  have HL := hide hl
  clear h hl
  go_enter Tryz.func304, Tryz.ntmps304
  go_wp2
  go_loopw [3, 8] (fun v i wr => ∃ j : Nat, j ≤ 4 ∧ i = .int .i64 j ∧ Hid (PackRel w ms j v wr)) (fun _ i _ => 4 - (intOf i).toNat)
  case atStart => exact ⟨0, by omega, rfl, HR0⟩
  case round =>
    obtain ⟨j, hj, rfl, HR⟩ := hrel
    by_cases hlt : j < 4
    · have hR := unhide HR
      have hM := (unhide HM).keep hR.2.1 hpl (fun f => f)
      obtain ⟨e0, e1, e2⟩ := hM j hlt
      have happ := fun W (hk : Keeps (fun _ => False) wr W) => appNums_any u3 (j * 8) (((ms.take j).flatMap txB).map ucell) (ms.getD j tx0) W ((Own.keep (S := fun _ => True) ⟨hR.1, fun _ _ => trivial⟩ hk (fun _ _ _ f => f)).1) (by omega)
      unfold txv at happ
      have HS := hide (fun W0 w1 v1 => hR.step (W0 := W0) (w1 := w1) (v1 := v1) (by rw [unhide HL]; exact hlt))
      generalize ms.getD j tx0 = m at *
      obtain ⟨b1, b2, b3⟩ := m
      simp only at *
      have h0 : (0 : Int) ≤ (j : Int) := Int.natCast_nonneg _
      have hlt' : (j : Int) < 4 := by omega
      have hkA : Keeps (fun _ => False) wr (wr.alloc (.cells #[.int .i64 (b1 : Int), .int .i64 (b2 : Int), .int .i64 (b3 : Int)] 38)) := (Keeps.refl _ _).alloc _
      clear hR hM
      go_wp2_with (go_at_call 305; refine (happ _ hkA).mono ?_; rintro e w1 ⟨v1, rfl, hv1, hk1, hat1⟩)
      go_roundw
      case rel => exact ⟨j + 1, by omega, by go_num, hide ((unhide HS) _ _ _ hkA hv1 hk1 hat1)⟩
      case measure => simp [intOf]; omega
    · have HJ := hide (show j = 4 by omega)
      go_wp2
      go_ret
      have hR := unhide HR
      rw [unhide HJ] at hR
      refine ⟨u3, rfl, Bytes.ofOwn ?_ hR.2.2, hR.2.1⟩
      have hl := unhide HL
      have h1 := hR.1
      rw [List.take_of_length_le (by omega)] at h1
      have h2 := marksB_size ms
      rw [hl] at h2
      have h3 : (ms.flatMap txB).length = 4 * 8 := h2
      rw [h3]
      exact h1

end Go.Proofs.YthbmmbgkchiajaaGreat

/- Tables keyed by transactions. -/
namespace Go.Proofs.YthbmmbgkchiajaaGreat
set_option linter.unusedSimpArgs false
set_option linter.unusedVariables false
open Go.RowKit

theorem run_eqTx (W : World) (a b : Tx) : (Op.equal 38 (txv a) (txv b)).run Tryz.prog W = .ok (decide (a = b)) W := by
  unfold txv Op.equal
  obtain ⟨d, hd⟩ : ∃ d, Op.maxDepth = d + 2 := ⟨9998, rfl⟩
  rw [hd]
  unfold Op.equalIn
  simp [go_sem, Tryz.underlying38, part]
  by_cases h1 : a.coord = b.coord
  · by_cases h2 : a.inc = b.inc
    · by_cases h3 : a.seq = b.seq
      · rw [if_pos (by omega), if_pos (by omega), if_pos (by omega), decide_eq_true (Tx.ext' h1 h2 h3)]
      · rw [if_pos (by omega), if_pos (by omega), if_neg (by omega), decide_eq_false (fun e => h3 (by rw [e]))]
    · rw [if_pos (by omega), if_neg (by omega), decide_eq_false (fun e => h2 (by rw [e]))]
  · rw [if_neg (by omega), decide_eq_false (fun e => h1 (by rw [e]))]

theorem run_checkTx (W : World) (em : Bool) (a : Tx) : (Instr.checkKey em 10000 38 (txv a)).run Tryz.prog W = .ok () W := by
  unfold txv
  obtain ⟨d, hd⟩ : ∃ d, 10000 = d + 2 := ⟨9998, rfl⟩
  rw [hd]
  have h1 : ∀ (x : Nat), (Instr.checkKey em (d + 1) 3 (.int .i64 (x : Int))).run Tryz.prog W = .ok () W := by
    intro x
    unfold Instr.checkKey
    simp [go_sem, Tryz.underlying3]
  unfold Instr.checkKey
  simp [go_sem, Tryz.underlying38, part, h1]

theorem sameBitsTx (t : Tx) : Instr.sameBits 10000 (txv t) (txv t) = true := by
  obtain ⟨d, hd⟩ : ∃ d, 10000 = d + 2 := ⟨9998, rfl⟩
  rw [hd]
  unfold txv
  simp [Instr.sameBits]

theorem getMapObj {w : World} {b : Nat} {es : Array MapEntry} {c : Nat} (hb : w.heap[b]? = some (.map es c)) : (getObj b).run Tryz.prog w = .ok (.map es c) w := by simp [getObj, Sem.run, hb]
theorem setMapObj {w : World} {b : Nat} {es : Array MapEntry} {c : Nat} (hb : w.heap[b]? = some (.map es c)) (o : Obj) : (setObj b o).run Tryz.prog w = .ok () { w with heap := w.heap.setIfInBounds b o } := by simp [setObj, Sem.run, hb]
def ents (l : List (Tx × Value)) (es : List MapEntry) : Prop := es.map (fun e => (e.key, e.val)) = l.map (fun x => (txv x.1, x.2))
theorem ents_cons {x : Tx × Value} {l : List (Tx × Value)} {es : List MapEntry} (h : ents (x :: l) es) : ∃ e es', es = e :: es' ∧ e.key = txv x.1 ∧ e.val = x.2 ∧ ents l es' := by
  unfold ents at h
  cases es with
  | nil => simp at h
  | cons e es =>
    simp only [List.map_cons, List.cons.injEq, Prod.mk.injEq] at h
    exact ⟨e, es, rfl, h.1.1, h.1.2, h.2⟩
theorem ents_nil {es : List MapEntry} (h : ents [] es) : es = [] := by
  unfold ents at h
  simpa using h

/-- At which place the transaction stands. -/
def mat (l : List (Tx × Value)) (t : Tx) : Option (Nat × Value) := match l with
  | [] => none
  | x :: l => if x.1 = t then some (0, x.2) else (mat l t).map (fun y => (y.1 + 1, y.2))

theorem run_findAskTx (W : World) (t : Tx) : ∀ (l : List (Tx × Value)) (es : List MapEntry) (i : Nat), ents l es → (Instr.findAsking 38 (txv t) es i).run Tryz.prog W = .ok ((mat l t).map (fun y => (y.1 + i, y.2))) W
  | [], es, i, h => by
    rw [ents_nil h]
    rfl
  | x :: l, es, i, h => by
    obtain ⟨e, es', rfl, h1, h2, h3⟩ := ents_cons h
    unfold Instr.findAsking
    rw [h1]
    by_cases hx : t = x.1
    · subst hx
      simp [mat, h2, run_eqTx]
    · have hx' : ¬ x.1 = t := fun e => hx e.symm
      simp [run_eqTx, hx]
      rw [run_findAskTx W t l es' (i + 1) h3]
      simp only [mat, if_neg hx', Option.map_map]
      congr 2
      funext y
      simp; omega

theorem run_findTx (W : World) (t : Tx) (l : List (Tx × Value)) (es : List MapEntry) (h : ents l es) : (Instr.findKey 38 (txv t) es).run Tryz.prog W = .ok (mat l t) W := by
  unfold Instr.findKey
  simp [run_underlying Tryz.underlying38]
  cases l with
  | nil =>
    rw [ents_nil h]
    rfl
  | cons x l =>
    have h' := h
    obtain ⟨e, es', rfl, h1, h2, h3⟩ := ents_cons h
    unfold Instr.findNow
    rw [h1]
    have := run_findAskTx W t (x :: l) (e :: es') 0 h'
    simp only [Nat.add_zero, Option.map_id'] at this
    exact this

theorem mat_none {l : List (Tx × Value)} {t : Tx} (h : mat l t = none) : mhas l t = false ∧ mget l t = none := by
  induction l with
  | nil => exact ⟨rfl, rfl⟩
  | cons x l ih =>
    unfold mat at h
    by_cases hx : x.1 = t
    · rw [if_pos hx] at h; cases h
    · rw [if_neg hx, Option.map_eq_none_iff] at h
      obtain ⟨h1, h2⟩ := ih h
      unfold mhas mget at *
      simp only [List.any_cons, List.find?_cons, decide_eq_false hx, Bool.false_or]
      exact ⟨h1, h2⟩
theorem mat_some {l : List (Tx × Value)} {t : Tx} {i : Nat} {v : Value} (h : mat l t = some (i, v)) : mhas l t = true ∧ mget l t = some v ∧ i < l.length ∧ l[i]? = some (t, v) := by
  induction l generalizing i with
  | nil => cases h
  | cons x l ih =>
    unfold mat at h
    by_cases hx : x.1 = t
    · rw [if_pos hx] at h
      cases h
      unfold mhas mget
      simp only [List.any_cons, List.find?_cons, decide_eq_true hx, Bool.true_or]
      refine ⟨trivial, rfl, by simp, ?_⟩
      rw [← hx]; rfl
    · rw [if_neg hx, Option.map_eq_some_iff] at h
      obtain ⟨⟨i', v'⟩, h1, h2⟩ := h
      simp only [Prod.mk.injEq] at h2
      obtain ⟨rfl, rfl⟩ := h2
      obtain ⟨g1, g2, g3, g4⟩ := ih h1
      unfold mhas mget at *
      simp only [List.any_cons, List.find?_cons, decide_eq_false hx, Bool.false_or]
      exact ⟨g1, g2, by simp; omega, by simpa using g4⟩

/-- The table at b. -/
def MapAt (w : World) (b : Nat) (l : List (Tx × Value)) : Prop := ∃ es clock, w.heap[b]? = some (.map es clock) ∧ ents l es.toList ∧ es.toList.Pairwise (fun x y => x.born ≠ y.born) ∧ ∀ e ∈ es.toList, e.born < clock
theorem MapAt.lt {w : World} {b : Nat} {l : List (Tx × Value)} (h : MapAt w b l) : b < w.heap.size := by
  obtain ⟨es, c, h, _⟩ := h
  exact lt_of_heap h
theorem MapAt.keep {T : Nat → Prop} {w w' : World} {b : Nat} {l : List (Tx × Value)} (h : MapAt w b l) (hk : Keeps T w w') (hn : ¬ T b) : MapAt w' b l := by
  obtain ⟨es, c, h, r⟩ := h
  exact ⟨es, c, hk.heap h hn, r⟩
theorem MapAt.drew {w : World} {b : Nat} {l : List (Tx × Value)} (h : MapAt w b l) : MapAt w.drew b l := h
theorem ents_length {l : List (Tx × Value)} {es : List MapEntry} (h : ents l es) : es.length = l.length := by
  have := congrArg List.length h
  simpa using this

theorem lookup_val {w : World} {b : Nat} {l : List (Tx × Value)} (h : MapAt w b l) (ty e : TypeId) (hty : Tryz.prog.underlying ty = some (.map 38 e)) (z : Value) (hz : (zeroValue e).run Tryz.prog w = .ok z w) (t : Tx) :
    (Instr.lookup ty (.map (some b)) (txv t) false).run Tryz.prog w = .ok ((mget l t).getD z) w := by
  obtain ⟨es, c, hb, he, _⟩ := h
  unfold Instr.lookup
  simp [run_underlying hty, getMapObj hb, run_checkTx, run_findTx w t l es.toList he]
  cases hm : mat l t with
  | none => simp [hz, (mat_none hm).2]
  | some y => obtain ⟨i, v⟩ := y; simp [(mat_some hm).2.1]
theorem lookup_ok {w : World} {b : Nat} {l : List (Tx × Value)} (h : MapAt w b l) (ty e : TypeId) (hty : Tryz.prog.underlying ty = some (.map 38 e)) (z : Value) (hz : (zeroValue e).run Tryz.prog w = .ok z w) (t : Tx) :
    (Instr.lookup ty (.map (some b)) (txv t) true).run Tryz.prog w = .ok (.tuple #[(mget l t).getD z, .bool (mhas l t)]) w := by
  obtain ⟨es, c, hb, he, _⟩ := h
  unfold Instr.lookup
  simp [run_underlying hty, getMapObj hb, run_checkTx, run_findTx w t l es.toList he]
  cases hm : mat l t with
  | none => simp [hz, (mat_none hm).1, (mat_none hm).2]
  | some y => obtain ⟨i, v⟩ := y; simp [(mat_some hm).1, (mat_some hm).2.1]

/-- The world with another object in block b. -/
def setMap (w : World) (b : Nat) (o : Obj) : World := { w with heap := w.heap.setIfInBounds b o }
theorem keeps_setMap (w : World) (b : Nat) (o : Obj) : Keeps (fun k => k = b) w (setMap w b o) :=
  ⟨rfl, rfl, rfl, by simp [setMap], fun k _ hn => by
    show (w.heap.setIfInBounds b o)[k]? = _
    rw [Array.getElem?_setIfInBounds_ne (fun e => hn e.symm)]⟩
theorem setMap_at {w : World} {b : Nat} (h : b < w.heap.size) (o : Obj) : (setMap w b o).heap[b]? = some o := by
  show (w.heap.setIfInBounds b o)[b]? = _
  simp [h]

theorem mset_ents {l : List (Tx × Value)} {es : List MapEntry} {t : Tx} {v v0 : Value} {i : Nat} (h : ents l es) (hn : (l.map Prod.fst).Nodup) (hi : l[i]? = some (t, v0)) : ents (mset l t v) (es.modify i (fun e => { e with key := txv t, val := v })) := by
  have hl := ents_length h
  unfold ents at *
  apply List.ext_getElem?
  intro k
  have hk := congrArg (fun x => x[k]?) h
  simp only [List.getElem?_map, List.getElem?_modify, mset] at hk ⊢
  by_cases hik : i = k
  · subst hik
    rw [hi] at hk ⊢
    simp only [Option.map_some] at hk ⊢
    rw [Option.map_eq_some_iff] at hk
    obtain ⟨e, he, _⟩ := hk
    rw [he]
    simp
  · simp only [if_neg hik]
    cases hlk : l[k]? with
    | none => rw [hlk] at hk; simpa using hk
    | some x =>
      rw [hlk] at hk
      have hx : ¬ x.1 = t := by
        intro e
        have h1 : (l.map Prod.fst)[i]? = some t := by rw [List.getElem?_map, hi]; rfl
        have h2 : (l.map Prod.fst)[k]? = some t := by rw [List.getElem?_map, hlk, ← e]; rfl
        exact hik ((List.getElem?_inj (by have := (List.getElem?_eq_some_iff.1 h1).1; exact this) hn).1 (h1.trans h2.symm))
      simp only [Option.map_some, if_neg hx] at hk ⊢
      rw [← hk]
      simp

theorem mdel_ents {l : List (Tx × Value)} {t : Tx} {v0 : Value} {i : Nat} (hn : (l.map Prod.fst).Nodup) (hi : l[i]? = some (t, v0)) : mdel l t = l.eraseIdx i := by
  induction l generalizing i with
  | nil => simp at hi
  | cons x l ih =>
    rw [List.map_cons, List.nodup_cons] at hn
    cases i with
    | zero =>
      simp only [List.getElem?_cons_zero, Option.some.injEq] at hi
      subst hi
      unfold mdel
      rw [List.filter_cons_of_neg (by simp), List.eraseIdx_cons_zero, List.filter_eq_self]
      intro y hy
      rw [decide_eq_true_eq]
      rintro rfl
      exact hn.1 (List.mem_map.2 ⟨y, hy, rfl⟩)
    | succ i =>
      simp only [List.getElem?_cons_succ] at hi
      have hx : x.1 ≠ t := by
        rintro rfl
        exact hn.1 (List.mem_map.2 ⟨_, List.mem_of_getElem? hi, rfl⟩)
      unfold mdel at *
      rw [List.filter_cons_of_pos (by simpa using hx), List.eraseIdx_cons_succ, ih hn.2 hi]
theorem mdel_none {l : List (Tx × Value)} {t : Tx} (h : mhas l t = false) : mdel l t = l := by
  unfold mdel mhas at *
  rw [List.filter_eq_self]
  intro y hy
  rw [List.any_eq_false] at h
  simpa using h y hy

theorem store_map {w : World} {b : Nat} {l : List (Tx × Value)} (h : MapAt w b l) (hn : (l.map Prod.fst).Nodup) (ty e : TypeId) (hty : Tryz.prog.underlying ty = some (.map 38 e)) (t : Tx) (v : Value) :
    ∃ w', (Instr.mapUpdate ty (.map (some b)) (txv t) v).run Tryz.prog w = .ok () w' ∧ Hid (MapAt w' b (mput l t v) ∧ Keeps (fun k => k = b) w w') := by
  have hlt := h.lt
  obtain ⟨es, c, hb, he, hd, hc⟩ := h
  cases hm : mat l t with
  | none =>
    refine ⟨setMap w b (.map (es.push { key := txv t, val := v, born := c }) (c + 1)), ?_, hide ⟨⟨_, _, setMap_at hlt _, ?_, ?_, ?_⟩, keeps_setMap _ _ _⟩⟩
    · unfold Instr.mapUpdate
      simp [run_underlying hty, getMapObj hb, run_checkTx, run_findTx w t l es.toList he, hm, setMapObj hb, setMap]
    · unfold mput
      rw [if_neg (by rw [(mat_none hm).1]; simp)]
      unfold ents at *
      simp [he]
    · rw [Array.toList_push, List.pairwise_append]
      refine ⟨hd, by simp, fun x hx y hy => ?_⟩
      rw [List.mem_singleton] at hy
      subst hy
      have := hc x hx
      show x.born ≠ c
      omega
    · intro x hx
      rw [Array.toList_push, List.mem_append, List.mem_singleton] at hx
      rcases hx with hx | rfl
      · have := hc x hx; omega
      · show c < c + 1; omega
  | some y =>
    obtain ⟨i, v0⟩ := y
    obtain ⟨h1, h2, h3, h4⟩ := mat_some hm
    have hkey : ((es[i]?).map (·.key)).getD (txv t) = txv t := by
      have := congrArg (fun x => x[i]?) he
      simp only [List.getElem?_map, h4, Option.map_some] at this
      rw [Option.map_eq_some_iff] at this
      obtain ⟨x, hx, hy⟩ := this
      rw [Array.getElem?_toList] at hx
      rw [hx]
      simp only [Prod.mk.injEq] at hy
      simpa using hy.1
    refine ⟨setMap w b (.map (es.modify i fun e => { e with key := txv t, val := v }) c), ?_, hide ⟨⟨_, _, setMap_at hlt _, ?_, ?_, ?_⟩, keeps_setMap _ _ _⟩⟩
    · unfold Instr.mapUpdate
      simp [run_underlying hty, getMapObj hb, run_checkTx, run_findTx w t l es.toList he, hm, setMapObj hb, setMap, hkey, Instr.keyThatStays, sameBitsTx]
    · unfold mput
      rw [if_pos h1, Array.toList_modify]
      exact mset_ents he hn h4
    · rw [Array.toList_modify]
      have e : ((es.toList.modify i (fun e => { e with key := txv t, val := v })).map MapEntry.born) = es.toList.map MapEntry.born := by
        apply List.ext_getElem?
        intro k
        simp only [List.getElem?_map, List.getElem?_modify]
        split
        · cases es.toList[k]? <;> rfl
        · simp
      rw [← List.pairwise_map (f := MapEntry.born) (R := fun x y => x ≠ y)] at hd ⊢
      rw [e]; exact hd
    · intro x hx
      rw [Array.toList_modify] at hx
      obtain ⟨k, hk⟩ := List.getElem?_of_mem hx
      rw [List.getElem?_modify] at hk
      cases hq : es.toList[k]? with
      | none => rw [hq] at hk; simp at hk
      | some x0 =>
        have := hc x0 (List.mem_of_getElem? hq)
        rw [hq] at hk
        split at hk
        · cases hk; exact this
        · cases hk; exact this

theorem delete_map {w : World} {b : Nat} {l : List (Tx × Value)} (h : MapAt w b l) (hn : (l.map Prod.fst).Nodup) (ty e r kt : TypeId) (hty : Tryz.prog.underlying ty = some (.map 38 e)) (t : Tx) :
    ∃ w', (Builtin.delete_ #[ty, kt] r #[.map (some b), txv t]).run Tryz.prog w = .ok (.tuple #[]) w' ∧ Hid (MapAt w' b (mdel l t) ∧ Keeps (fun k => k = b) w w') := by
  have hlt := h.lt
  obtain ⟨es, c, hb, he, hd, hc⟩ := h
  cases hm : mat l t with
  | none =>
    refine ⟨setMap w b (.map es c), ?_, hide ⟨⟨_, _, setMap_at hlt _, ?_, hd, hc⟩, keeps_setMap _ _ _⟩⟩
    · unfold Builtin.delete_
      simp [run_underlying hty, getMapObj hb, run_checkTx, run_findTx w t l es.toList he, hm, setMapObj hb, setMap]
    · rw [mdel_none (mat_none hm).1]; exact he
  | some y =>
    obtain ⟨i, v0⟩ := y
    obtain ⟨h1, h2, h3, h4⟩ := mat_some hm
    refine ⟨setMap w b (.map (es.eraseIdxIfInBounds i) c), ?_, hide ⟨⟨_, _, setMap_at hlt _, ?_, ?_, ?_⟩, keeps_setMap _ _ _⟩⟩
    · unfold Builtin.delete_
      simp [run_underlying hty, getMapObj hb, run_checkTx, run_findTx w t l es.toList he, hm, setMapObj hb, setMap]
    · rw [mdel_ents hn h4, Array.toList_eraseIdxIfInBounds]
      unfold ents at *
      rw [List.eraseIdx_eq_take_drop_succ, List.eraseIdx_eq_take_drop_succ, List.map_append, List.map_append, List.map_take, List.map_take, List.map_drop, List.map_drop, he]
    · rw [Array.toList_eraseIdxIfInBounds]
      exact hd.sublist (List.eraseIdx_sublist _ _)
    · intro x hx
      rw [Array.toList_eraseIdxIfInBounds] at hx
      exact hc x (List.mem_of_mem_eraseIdx hx)

theorem len_map {w : World} {b : Nat} {l : List (Tx × Value)} (h : MapAt w b l) (ty e r : TypeId) (hty : Tryz.prog.underlying ty = some (.map 38 e)) :
    (Builtin.len_ #[ty] r #[.map (some b)]).run Tryz.prog w = .ok (.int .i64 (l.length : Int)) w := by
  obtain ⟨es, c, hb, he, hd, hc⟩ := h
  have hl := ents_length he
  unfold Builtin.len_
  simp [run_underlying hty, getMapObj hb]
  rw [← hl]; rfl

end Go.Proofs.YthbmmbgkchiajaaGreat

/- A node in memory. -/
namespace Go.Proofs.YthbmmbgkchiajaaGreat
set_option linter.unusedSimpArgs false
set_option linter.unusedVariables false
open Go.RowKit

/-- Whose a block is. -/
inductive Tag where
  | other
  | node
  | opens
  | preps
  | fuse
  | jour
  | evs
  | deal (t : Tx)

def txCells (t : Tx) : List Value := [.int .i64 (t.coord : Int), .int .i64 (t.inc : Int), .int .i64 (t.seq : Int)]
def msgCells (m : Msg) : List Value := [.int .i64 (m.kind : Int), .int .i64 (m.frm : Int), .int .i64 (m.to : Int), .int .i64 (m.txn.coord : Int), .int .i64 (m.txn.inc : Int), .int .i64 (m.txn.seq : Int)]
def evCells (e : Ev) : List Value := [.int .i64 (e.kind : Int), .int .i64 (e.node : Int), .int .i64 (e.txn.coord : Int), .int .i64 (e.txn.inc : Int), .int .i64 (e.txn.seq : Int), .int .i64 (e.outcome : Int), .int .i64 (e.msg.kind : Int), .int .i64 (e.msg.frm : Int), .int .i64 (e.msg.to : Int), .int .i64 (e.msg.txn.coord : Int), .int .i64 (e.msg.txn.inc : Int), .int .i64 (e.msg.txn.seq : Int)]
theorem evCells_one (e : Ev) : ∀ u ∈ evCells e, u.oneCell' = true := by
  intro u hu
  simp only [evCells, List.mem_cons, List.not_mem_nil, or_false] at hu
  rcases hu with rfl | rfl | rfl | rfl | rfl | rfl | rfl | rfl | rfl | rfl | rfl | rfl <;> rfl
def dealCells (d : Deal) : Array Value := #[.int .i64 (d.parts : Int), .int .i64 (d.waits : Int), .int .i64 (d.outcome : Int), .int .i64 (d.ticks : Int), .int .i64 (d.recd : Int)]

def mk (n : NM) (c : Nat) : Tx := n.marks.getD c tx0
def nodeCells (n : NM) (pd : Nat) (vj vf : Value) (bo bp : Nat) (ve : Value) : Array Value :=
  #[.int .i64 (n.id : Int), .int .i64 (n.cfg.nodes : Int), .int .i64 (n.cfg.variant : Int), .int .i64 (n.cfg.ring : Int), .int .i64 (n.cfg.per : Int), .int .i64 (n.cfg.patience : Int),
    .pointer (some ⟨pd, 0, none⟩), .int .i64 (n.inc : Int), .bool n.refuses, .int .i64 (n.forced : Int), .int .i64 (n.lazies : Int), .int .i64 (n.sent : Int), vj, vf, .int .i64 (n.begun : Int), .map (some bo), .map (some bp),
    .int .i64 ((mk n 0).coord : Int), .int .i64 ((mk n 0).inc : Int), .int .i64 ((mk n 0).seq : Int), .int .i64 ((mk n 1).coord : Int), .int .i64 ((mk n 1).inc : Int), .int .i64 ((mk n 1).seq : Int),
    .int .i64 ((mk n 2).coord : Int), .int .i64 ((mk n 2).inc : Int), .int .i64 ((mk n 2).seq : Int), .int .i64 ((mk n 3).coord : Int), .int .i64 ((mk n 3).inc : Int), .int .i64 ((mk n 3).seq : Int), ve]

def openL (l : List (Tx × Deal)) : List (Tx × Value) := l.map fun x => (x.1, .pointer (some ⟨x.2.blk, 0, none⟩))
def prepL (l : List (Tx × Nat)) : List (Tx × Value) := l.map fun x => (x.1, .int .i64 (x.2 : Int))

structure OpensAt (o : Nat → Tag) (w : World) (bo : Nat) (l : List (Tx × Deal)) : Prop where
  own : o bo = .opens
  map : MapAt w bo (openL l)
  nodup : (l.map Prod.fst).Nodup
  deals : ∀ x ∈ l, o x.2.blk = .deal x.1 ∧ w.heap[x.2.blk]? = some (.cells (dealCells x.2) 208 (0, 0))
structure PrepsAt (o : Nat → Tag) (w : World) (bp : Nat) (l : List (Tx × Nat)) : Prop where
  own : o bp = .preps
  map : MapAt w bp (prepL l)
  nodup : (l.map Prod.fst).Nodup
def EvsAt (o : Nat → Tag) (w : World) (ve : Value) (l : List Ev) : Prop := Own (fun k => o k = .evs) w 56 12 ve l.length (l.flatMap evCells)
def FuseAt (o : Nat → Tag) (w : World) (vf : Value) (f : Option (Nat × List Bool)) : Prop :=
  match f with
  | none => vf = .pointer none
  | some (k, keep) => ∃ pf ak kc, vf = .pointer (some ⟨pf, 0, none⟩) ∧ o pf = .fuse ∧ w.heap[pf]? = some (.cells #[.int .i64 (k : Int), .slice ak keep.length kc] 217 (0, 0)) ∧ (∀ j, j < keep.length → ∃ gk ok, ak = some ⟨gk, ok, none⟩ ∧ o gk = .fuse ∧ gk ≠ pf ∧ w.cell? ⟨gk, ok + j, none⟩ = some (.bool (keep.getD j false))) ∧ k < 9223372036854775808 ∧ keep.length ≤ 9223372036854775807 ∧ keep.length ≤ kc
def JourAt (o : Nat → Tag) (w : World) (vj : Value) (pd : Nat) (up : Bool) (j : JM) (B : Nat) : Prop :=
  if up then ∃ pj m, vj = .pointer (some ⟨pj, 0, none⟩) ∧ JUse (fun k => o k = .jour) w pj pd j m ∧ m.syncs ≤ B
  else vj = .pointer none ∧ ∃ m, PDisk (fun k => o k = .jour) w pd m ∧ m.ok ∧ Found j m ∧ m.puts = [] ∧ m.syncs ≤ B

structure Small (n : NM) (B : Nat) : Prop where
  id : n.id < 4
  variant : 1 ≤ n.cfg.variant ∧ n.cfg.variant ≤ 3
  patience : 1 ≤ n.cfg.patience ∧ n.cfg.patience ≤ 8
  inc : n.inc ≤ 1073741824
  forced : n.forced ≤ B
  lazies : n.lazies ≤ B
  sent : n.sent ≤ B
  recs : n.recs.length ≤ B
  begun : n.begun ≤ B
  evs : n.evs.length ≤ B
  marks : n.marks.length = 4
  deals : ∀ x ∈ n.opn, x.2.parts < 16 ∧ x.2.waits < 16 ∧ x.2.outcome < 3 ∧ x.2.ticks ≤ B ∧ x.2.recd ≤ B
  preps : ∀ x ∈ n.prep, x.2 ≤ B
  opensL : n.opn.length ≤ B
  prepsL : n.prep.length ≤ B
  big : B ≤ 1099511627776

structure NG (o : Nat → Tag) (w : World) (p : Nat) (n : NM) (B pd : Nat) (vj vf : Value) (bo bp : Nat) (ve : Value) : Prop where
  self : w.heap[p]? = some (.cells (nodeCells n pd vj vf bo bp ve) 154 (0, 0))
  own : o p = .node
  opens : OpensAt o w bo n.opn
  preps : PrepsAt o w bp n.prep
  evs : EvsAt o w ve n.evs
  fuse : FuseAt o w vf n.fuse
  jour : JourAt o w vj pd n.up n.jm B
  small : Small n B
  eqs : (pd, bo, bp) = (n.pd, n.bo, n.bp)

def NodeAt (o : Nat → Tag) (w : World) (p : Nat) (n : NM) (B : Nat) : Prop := ∃ pd vj vf bo bp ve, NG o w p n B pd vj vf bo bp ve

/-- What a call on a node leaves. -/
def NPost (o : Nat → Tag) (w : World) (p : Nat) (n : NM) (B : Nat) (w' : World) : Prop :=
  (∃ o', (∀ k, k < w.heap.size → o' k = o k) ∧ NodeAt o' w' p n B) ∧ Keeps (fun k => o k ≠ .other) w w'

theorem NPost.trans {o : Nat → Tag} {w w1 w2 : World} {p : Nat} {n1 n2 : NM} {B1 B2 : Nat} (h : NPost o w p n1 B1 w1) (k : ∀ o', NodeAt o' w1 p n1 B1 → NPost o' w1 p n2 B2 w2) : NPost o w p n2 B2 w2 := by
  obtain ⟨⟨o1, e1, g1⟩, k1⟩ := h
  obtain ⟨⟨o2, e2, g2⟩, k2⟩ := k o1 g1
  refine ⟨⟨o2, fun i hi => (e2 i (Nat.lt_of_lt_of_le hi k1.size)).trans (e1 i hi), g2⟩, k1.trans k2 (fun i hi e => ?_)⟩
  rw [← e1 i hi]; exact e
theorem NPost.refl {o : Nat → Tag} {w : World} {p : Nat} {n : NM} {B : Nat} (h : NodeAt o w p n B) : NPost o w p n B w := ⟨⟨o, fun _ _ => rfl, h⟩, Keeps.refl _ _⟩

/-- The tags, with those of new blocks. -/
def tagsUp (o : Nat → Tag) (w : World) (t : Tag) : Nat → Tag := fun k => if k < w.heap.size then o k else t
theorem tagsUp_old {o : Nat → Tag} {w : World} {t : Tag} {k : Nat} (h : k < w.heap.size) : tagsUp o w t k = o k := if_pos h
theorem tagsUp_new {o : Nat → Tag} {w : World} {t : Tag} {k : Nat} (h : w.heap.size ≤ k) : tagsUp o w t k = t := if_neg (by omega)

theorem OpensAt.keep {o o' : Nat → Tag} {T : Nat → Prop} {w w' : World} {bo : Nat} {l : List (Tx × Deal)} (h : OpensAt o w bo l) (hk : Keeps T w w') (ho : ∀ k, k < w.heap.size → o' k = o k) (hT : ∀ k, k < w.heap.size → o k = .opens ∨ (∃ t, o k = .deal t) → ¬ T k) : OpensAt o' w' bo l := by
  have hb := h.map.lt
  refine ⟨(ho _ hb).trans h.own, h.map.keep hk (hT _ hb (.inl h.own)), h.nodup, fun x hx => ?_⟩
  obtain ⟨h1, h2⟩ := h.deals x hx
  have hd := lt_of_heap h2
  exact ⟨(ho _ hd).trans h1, hk.heap h2 (hT _ hd (.inr ⟨_, h1⟩))⟩
theorem PrepsAt.keep {o o' : Nat → Tag} {T : Nat → Prop} {w w' : World} {bp : Nat} {l : List (Tx × Nat)} (h : PrepsAt o w bp l) (hk : Keeps T w w') (ho : ∀ k, k < w.heap.size → o' k = o k) (hT : ∀ k, k < w.heap.size → o k = .preps → ¬ T k) : PrepsAt o' w' bp l := by
  have hb := h.map.lt
  exact ⟨(ho _ hb).trans h.own, h.map.keep hk (hT _ hb h.own), h.nodup⟩
theorem EvsAt.keep {o o' : Nat → Tag} {T : Nat → Prop} {w w' : World} {ve : Value} {l : List Ev} (h : EvsAt o w ve l) (hk : Keeps T w w') (ho : ∀ k, k < w.heap.size → o' k = o k) (hT : ∀ k, k < w.heap.size → o k = .evs → ¬ T k) : EvsAt o' w' ve l := by
  have h1 := Own.mono h (T := fun k => k < w.heap.size ∧ o k = .evs) (fun k hk e => ⟨hk, e⟩)
  have h2 := Own.keep h1 hk (fun k hk e => hT k hk e.2)
  exact ⟨h2.1, fun k e => (ho k (h2.2 k e).1).trans (h2.2 k e).2⟩
theorem FuseAt.keep {o o' : Nat → Tag} {T : Nat → Prop} {w w' : World} {vf : Value} {f : Option (Nat × List Bool)} (h : FuseAt o w vf f) (hk : Keeps T w w') (ho : ∀ k, k < w.heap.size → o' k = o k) (hT : ∀ k, k < w.heap.size → o k = .fuse → ¬ T k) : FuseAt o' w' vf f := by
  match f, h with
  | none, h => exact h
  | some (k, keep), ⟨pf, ak, kc, h1, h2, h3, h4, h5⟩ =>
    have hp := lt_of_heap h3
    refine ⟨pf, ak, kc, h1, (ho _ hp).trans h2, hk.heap h3 (hT _ hp h2), fun j hj => ?_, h5⟩
    obtain ⟨gk, ok, e1, e2, e3, e4⟩ := h4 j hj
    have hg := lt_of_cell e4
    exact ⟨gk, ok, e1, (ho _ hg).trans e2, e3, hk.cell' e4 (hT _ hg e2)⟩
theorem PDisk.keep' {S T U : Nat → Prop} {w w' : World} {p : Nat} {m : DM} (h : PDisk S w p m) (hk : Keeps T w w') (hT : ∀ k, k < w.heap.size → S k → ¬ T k) (hU : ∀ k, k < w.heap.size → S k → U k) : PDisk U w' p m := by
  have h1 := Two.mono h (T := fun k => k < w.heap.size ∧ S k) (fun k hk e => ⟨hk, e⟩)
  have h2 := Two.keep h1 hk (fun k hk e => hT k hk e.2)
  exact Two.mono h2 (fun k _ e => hU k e.1 e.2)
theorem JourAt.keep {o o' : Nat → Tag} {T : Nat → Prop} {w w' : World} {vj : Value} {pd B : Nat} {up : Bool} {j : JM} (h : JourAt o w vj pd up j B) (hk : Keeps T w w') (ho : ∀ k, k < w.heap.size → o' k = o k) (hT : ∀ k, k < w.heap.size → o k = .jour → ¬ T k) : JourAt o' w' vj pd up j B := by
  unfold JourAt at *
  cases up with
  | true =>
    rw [if_pos rfl] at *
    obtain ⟨pj, m, h1, h2, h3⟩ := h
    have g1 := h2.mono (T := fun k => k < w.heap.size ∧ o k = .jour) (fun k hk e => ⟨hk, e⟩)
    have g2 := g1.keep hk (fun k hk e => hT k hk e.2)
    exact ⟨pj, m, h1, g2.mono (fun k _ e => (ho k e.1).trans e.2), h3⟩
  | false =>
    rw [if_neg (by simp)] at *
    obtain ⟨h1, m, h2, h3⟩ := h
    exact ⟨h1, m, h2.keep' hk hT (fun k hk e => (ho k hk).trans e), h3⟩
theorem JourAt.big {o : Nat → Tag} {w : World} {vj : Value} {pd B B' : Nat} {up : Bool} {j : JM} (h : JourAt o w vj pd up j B) (hB : B ≤ B') : JourAt o w vj pd up j B' := by
  unfold JourAt at *
  cases up with
  | true =>
    rw [if_pos rfl] at *
    obtain ⟨pj, m, h1, h2, h3⟩ := h
    exact ⟨pj, m, h1, h2, Nat.le_trans h3 hB⟩
  | false =>
    rw [if_neg (by simp)] at *
    obtain ⟨h1, m, h2, h3, h4, h5, h6⟩ := h
    exact ⟨h1, m, h2, h3, h4, h5, Nat.le_trans h6 hB⟩
theorem Small.up {n : NM} {B B' : Nat} (h : Small n B) (hB : B ≤ B') (hB' : B' ≤ 1099511627776) : Small n B' :=
  ⟨h.id, h.variant, h.patience, h.inc, Nat.le_trans h.forced hB, Nat.le_trans h.lazies hB, Nat.le_trans h.sent hB, Nat.le_trans h.recs hB, Nat.le_trans h.begun hB, Nat.le_trans h.evs hB, h.marks,
    fun x hx => ⟨(h.deals x hx).1, (h.deals x hx).2.1, (h.deals x hx).2.2.1, Nat.le_trans (h.deals x hx).2.2.2.1 hB, Nat.le_trans (h.deals x hx).2.2.2.2 hB⟩, fun x hx => Nat.le_trans (h.preps x hx) hB, Nat.le_trans h.opensL hB, Nat.le_trans h.prepsL hB, hB'⟩

theorem NG.keep {o o' : Nat → Tag} {T : Nat → Prop} {w w' : World} {p : Nat} {n : NM} {B pd : Nat} {vj vf : Value} {bo bp : Nat} {ve : Value} (h : NG o w p n B pd vj vf bo bp ve) (hk : Keeps T w w') (ho : ∀ k, k < w.heap.size → o' k = o k) (hT : ∀ k, k < w.heap.size → o k ≠ .other → ¬ T k) : NG o' w' p n B pd vj vf bo bp ve := by
  have hp := lt_of_heap h.self
  exact ⟨hk.heap h.self (hT _ hp (by rw [h.own]; simp)), (ho _ hp).trans h.own, h.opens.keep hk ho (fun k hk e => hT k hk (by rcases e with e | ⟨t, e⟩ <;> rw [e] <;> simp)), h.preps.keep hk ho (fun k hk e => hT k hk (by rw [e]; simp)),
    h.evs.keep hk ho (fun k hk e => hT k hk (by rw [e]; simp)), h.fuse.keep hk ho (fun k hk e => hT k hk (by rw [e]; simp)), h.jour.keep hk ho (fun k hk e => hT k hk (by rw [e]; simp)), h.small, h.eqs⟩
theorem NodeAt.keep {o o' : Nat → Tag} {T : Nat → Prop} {w w' : World} {p : Nat} {n : NM} {B : Nat} (h : NodeAt o w p n B) (hk : Keeps T w w') (ho : ∀ k, k < w.heap.size → o' k = o k) (hT : ∀ k, k < w.heap.size → o k ≠ .other → ¬ T k) : NodeAt o' w' p n B := by
  obtain ⟨pd, vj, vf, bo, bp, ve, h⟩ := h
  exact ⟨pd, vj, vf, bo, bp, ve, h.keep hk ho hT⟩
theorem NodeAt.up {o : Nat → Tag} {w : World} {p : Nat} {n : NM} {B B' : Nat} (h : NodeAt o w p n B) (hB : B ≤ B') (hB' : B' ≤ 1099511627776) : NodeAt o w p n B' := by
  obtain ⟨pd, vj, vf, bo, bp, ve, h⟩ := h
  exact ⟨pd, vj, vf, bo, bp, ve, h.self, h.own, h.opens, h.preps, h.evs, h.fuse, h.jour.big hB, h.small.up hB hB', h.eqs⟩
theorem NPost.up {o : Nat → Tag} {w w' : World} {p : Nat} {n : NM} {B B' : Nat} (h : NPost o w p n B w') (hB : B ≤ B') (hB' : B' ≤ 1099511627776) : NPost o w p n B' w' := by
  obtain ⟨⟨o', e, g⟩, k⟩ := h
  exact ⟨⟨o', e, g.up hB hB'⟩, k⟩
/-- What only makes new blocks. -/
theorem NodeAt.quiet {o : Nat → Tag} {w w' : World} {p : Nat} {n : NM} {B : Nat} (h : NodeAt o w p n B) (hk : Keeps (fun _ => False) w w') : NPost o w p n B w' :=
  ⟨⟨o, fun _ _ => rfl, h.keep hk (fun _ _ => rfl) (fun _ _ _ f => f)⟩, hk.mono (fun _ _ f => f.elim)⟩

end Go.Proofs.YthbmmbgkchiajaaGreat
