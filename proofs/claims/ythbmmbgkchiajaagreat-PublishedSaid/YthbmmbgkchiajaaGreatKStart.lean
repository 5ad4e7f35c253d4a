
/- A cluster is started. -/
import Derived.Test.YthbmmbgkchiajaaGreatKOf
import Derived.Test.YthbmmbgkchiajaaGreatCCheck

namespace Go.Proofs.YthbmmbgkchiajaaGreat
set_option linter.unusedSimpArgs false
set_option linter.unusedVariables false
open Go.RowKit

/-- The first j nodes of a new cluster. -/
def Started (cfg : Cfg) (j : Nat) (ns : List NM) : Prop := ns.length = j ∧ ∀ i n, ns[i]? = some n → ∃ pd bo bp, n = newNM i cfg pd bo bp

structure StartRel (w : World) (pk bc : Nat) (cfg : Cfg) (j : Nat) (c : Nat → CTag) (K : KM) (wr : World) (vr vn vt : Value) : Prop where
  at_ : KG c wr pk K 1 vr vn vt
  ns : Started cfg j K.ns
  net : K.net = []
  trace : K.trace = []
  old : ∀ k, k < w.heap.size → c k = .other
  low : ∀ k i t, c k = .node i t → i < j
  boxed : wr.heap[bc]? = some (.cells #[.int .i64 (cfg.nodes : Int), .int .i64 (cfg.variant : Int), .int .i64 (cfg.ring : Int), .int .i64 (cfg.per : Int), .int .i64 (cfg.patience : Int)] 29 (0, 0))
  box : c bc = .other
  keep : Keeps (fun _ => False) w wr

theorem StartRel.next {w wr w2 w3 : World} {pk bc : Nat} {cfg : Cfg} {j : Nat} {c : Nat → CTag} {K : KM} {vr vn vt : Value} (h : StartRel w pk bc cfg j c K wr vr vn vt) (hj : j < 4) {p pd bo bp : Nat} {o' : Nat → Tag} {v' : Value} (hN : NodeAt o' w2 p (newNM j cfg pd bo bp) 1) (ho : ∀ k, k < wr.heap.size → o' k = .other) (hk2 : Keeps (fun _ => False) wr w2)
    (hk3 : Keeps (fun k => vr.ownBlock = some k) w2 w3) (hown : w3.ownsRow 0 93 1 v' (K.ps.length + 1) (K.ps.map (fun p => Value.pointer (some ⟨p, 0, none⟩)) ++ [.pointer (some ⟨p, 0, none⟩)])) (hat : ∀ k, v'.ownBlock = some k → vr.ownBlock = some k ∨ w2.heap.size ≤ k) :
    ∃ c' K', StartRel w pk bc cfg (j + 1) c' K' (w3.setCell ⟨pk, 0, none⟩ v') v' vn vt := by
  have g := h.at_
  have hpk := lt_of_heap g.self
  have hsz2 := hk2.size
  have hsz3 := hk3.size
  have hpn : ¬ vr.ownBlock = some pk := fun e => by have h1 : c pk = .row := g.row.2 _ e; rw [g.own] at h1; cases h1
  let c' : Nat → CTag := fun k => if k < wr.heap.size then c k else if k < w2.heap.size then .node j (o' k) else .row
  have hc : ∀ k, k < wr.heap.size → c' k = c k := fun k hk => if_pos hk
  have hkk : Keeps (fun k => k = pk ∨ vr.ownBlock = some k) wr (w3.setCell ⟨pk, 0, none⟩ v') := ((hk2.mono (T := fun k => k = pk ∨ vr.ownBlock = some k) (fun _ _ f => f.elim)).trans hk3 (fun _ _ e => .inr e)).setCell (p := ⟨pk, 0, none⟩) (.inl (.inl rfl)) _
  have hk2' : Keeps (fun k => k = pk ∨ vr.ownBlock = some k) w2 (w3.setCell ⟨pk, 0, none⟩ v') := (hk3.mono (T := fun k => k = pk ∨ vr.ownBlock = some k) (fun _ _ e => .inr e)).setCell (p := ⟨pk, 0, none⟩) (.inl (.inl rfl)) _
  have hq : ∀ k, k = pk ∨ vr.ownBlock = some k → c k = .self ∨ c k = .row := fun k e => by
    rcases e with rfl | e
    · exact .inl g.own
    · exact .inr (g.row.2 _ e)
  have hb1 := hk3.heap (hk2.heap g.self (fun f => f)) hpn
  refine ⟨c', ⟨K.ns ++ [newNM j cfg pd bo bp], K.ps ++ [p], K.net, K.trace⟩, ⟨?_, ?_, h.net, h.trace, ?_, ?_, ?_, ?_, ?_⟩⟩
  · refine ⟨by rw [heap_setCell_same hb1]; rfl, (hc _ hpk).trans g.own, ?_, g.net.ckeep hkk hc (fun k _ e e' => by rcases hq k e' with q | q <;> rw [q] at e <;> cases e), g.trace.ckeep hkk hc (fun k _ e e' => by rcases hq k e' with q | q <;> rw [q] at e <;> cases e), ?_, ?_, ?_⟩
    · show Own _ _ _ _ _ (K.ps ++ [p]).length ((K.ps ++ [p]).map _)
      rw [List.length_append, List.length_singleton, List.map_append, List.map_singleton]
      refine Own.keep (S := fun k => c' k = .row) ⟨hown, fun k e => ?_⟩ ((Keeps.refl (fun k => k = pk) w3).setCell (p := ⟨pk, 0, none⟩) (.inl rfl) _) (fun k _ e e' => ?_)
      · rcases hat k e with e' | e'
        · show c' k = .row
          rw [hc k (Own.lt g.row e')]; exact g.row.2 _ e'
        · show c' k = .row
          have h1 : ¬ k < wr.heap.size := by omega
          have h2 : ¬ k < w2.heap.size := by omega
          simp [c', h1, h2]
      · subst e'
        rw [hc _ hpk, g.own] at e
        cases e
    · show (K.ps ++ [p]).length = (K.ns ++ [newNM j cfg pd bo bp]).length
      rw [List.length_append, List.length_append, g.len]; rfl
    · intro i n q h1 h2
      have h1' : (K.ns ++ [newNM j cfg pd bo bp])[i]? = some n := h1
      have h2' : (K.ps ++ [p])[i]? = some q := h2
      by_cases hi : i < K.ns.length
      · rw [List.getElem?_append_left hi] at h1'
        rw [List.getElem?_append_left (by rw [g.len]; exact hi)] at h2'
        exact g.nodesKeep hkk hc (fun k _ ⟨i, t, e⟩ e' => by rcases hq k e' with q | q <;> rw [q] at e <;> cases e) i n q h1' h2'
      · rw [List.getElem?_append_right (by omega)] at h1'
        rw [List.getElem?_append_right (by rw [g.len]; omega)] at h2'
        have hi0 : i - K.ns.length = 0 := by
          have := (List.getElem?_eq_some_iff.1 h1').1
          simp at this; omega
        have hij : i = j := by have := h.ns.1; omega
        rw [hi0] at h1'
        rw [g.len, hi0] at h2'
        simp only [List.getElem?_cons_zero, Option.some.injEq] at h1' h2'
        subst h1' h2' hij
        refine hN.keep hk2' (fun k hk => ?_) (fun k hk e e' => ?_)
        · unfold nodeTags
          by_cases hlt : k < wr.heap.size
          · rw [hc k hlt, ho k hlt]
            cases hck : c k with
            | node x t => have := h.low k x t hck; simp; omega
            | other => rfl
            | self => rfl
            | row => rfl
            | net => rfl
            | trace => rfl
          · have h1 : c' k = .node i (o' k) := by simp [c', hlt, hk]
            rw [h1]; simp
        · have hlt : k < wr.heap.size := by
            rcases e' with rfl | e'
            · exact hpk
            · exact Own.lt g.row e'
          exact e (ho k hlt)
    · refine ⟨g.small.1, g.small.2.1, ?_⟩
      show (K.ns ++ [newNM j cfg pd bo bp]).length ≤ 4
      rw [List.length_append, h.ns.1]; exact hj
  · refine ⟨by rw [List.length_append, h.ns.1]; rfl, fun i n hi => ?_⟩
    by_cases hlt : i < K.ns.length
    · rw [List.getElem?_append_left hlt] at hi
      exact h.ns.2 i n hi
    · rw [List.getElem?_append_right (by omega)] at hi
      have hi0 : i - K.ns.length = 0 := by
        have := (List.getElem?_eq_some_iff.1 hi).1
        simp at this; omega
      have hij : i = j := by have := h.ns.1; omega
      rw [hi0] at hi
      simp only [List.getElem?_cons_zero, Option.some.injEq] at hi
      subst hi hij
      exact ⟨pd, bo, bp, rfl⟩
  · intro k hk
    rw [hc k (Nat.lt_of_lt_of_le hk h.keep.size)]
    exact h.old k hk
  · intro k i t e
    by_cases hlt : k < wr.heap.size
    · rw [hc k hlt] at e
      have := h.low k i t e
      omega
    · by_cases hlt2 : k < w2.heap.size
      · have h1 : c' k = .node j (o' k) := by simp [c', hlt, hlt2]
        rw [h1] at e
        cases e
        omega
      · have h1 : c' k = .row := by simp [c', hlt, hlt2]
        rw [h1] at e
        cases e
  · exact hkk.heap h.boxed (fun e => by have := h.box; rcases hq bc e with q | q <;> rw [q] at this <;> cases this)
  · rw [hc bc (lt_of_heap h.boxed)]; exact h.box
  · exact h.keep.trans hkk (fun k hk e => by
      have := h.old k hk
      rcases hq k e with q | q <;> rw [q] at this <;> cases this)

end Go.Proofs.YthbmmbgkchiajaaGreat

/- A cluster is started: the walk. -/
namespace Go.Proofs.YthbmmbgkchiajaaGreat
set_option linter.unusedSimpArgs false
set_option linter.unusedVariables false
open Go.RowKit

def ndApp (args : Array Value) : Sem Value := Builtin.append_ #[90, 90] 90 args
theorem ndApp_eq (args : Array Value) : Builtin.append_ #[90, 90] 90 args = ndApp args := rfl
theorem infoPN : (Tryz.prog.info? 93).map (fun i => (i.zero, i.size, i.bytes)) = some (some (.pointer none), 1, 8) := by kernel_rfl
theorem run_appN (W : World) (v x : Value) (n : Nat) (xs : List Value) (hx : x.oneCell' = true) (hown : W.ownsRow 0 93 1 v n xs) (hn : n ≤ 1000) :
    ∃ g cap W', (ndApp #[v, .slice (some ⟨W.heap.size, 0, none⟩) 1 1]).run Tryz.prog (W.alloc (.cells #[x] 93)) = .ok (.slice (some ⟨g, 0, none⟩) (n + 1) cap) W' ∧ Hid (W'.ownsRow 0 93 1 (.slice (some ⟨g, 0, none⟩) (n + 1) cap) (n + 1) (xs ++ [x]) ∧ Keeps (fun k => v.ownBlock = some k) W W' ∧ (v.ownBlock = some g ∨ W.heap.size < g) ∧ n + 1 ≤ cap) := by
  obtain ⟨iB, hiB, hz0, hz1, hz2⟩ := info_parts infoPN
  have hkA : Keeps (fun _ => False) W (W.alloc (.cells #[x] 93)) := (Keeps.refl _ _).alloc _
  obtain ⟨v', W', r0, r1, r2, _, r4⟩ := run_append_own_at (P := Tryz.prog) (W.alloc (.cells #[x] 93)) 0 90 90 93 iB _ 1 8 Tryz.underlying90 hiB hz0 hz1 hz2 rfl (by omega) v n xs (hown.alloc _) ⟨W.heap.size, 0, none⟩ 1 1 [x] rfl
    (cell_one_new _ _ _) (fun u hu => by rw [List.mem_singleton] at hu; subst hu; exact hx) (by unfold maxLen; omega) (by omega) (Nat.zero_le _)
  rcases r1.2 with ⟨_, h0⟩ | ⟨g', c', cur, rfl, _, hg', hc', _, hsz, ht⟩
  · omega
  · refine ⟨g', c', W', r0, hide ⟨r1, ?_, ?_, hc'⟩⟩
    · exact (hkA.mono (T := fun k => v.ownBlock = some k) (fun _ _ f => f.elim)).grown r2 (fun k hk _ => hk)
    · rcases r4 with r4 | r4
      · exact .inl (by simpa [Value.ownBlock] using r4.symm)
      · refine .inr ?_
        simp only [Value.ownBlock, Option.some.injEq] at r4
        rw [r4]; simp
attribute [local go_sem ↓] ndApp_eq

theorem chk_ok {c : Cfg} (h : CfgOk c) (h24 : 24 ≤ c.ring * c.per) : chk (c.nodes : Int) (c.variant : Int) (c.ring : Int) (c.per : Int) (c.patience : Int) = 0 := by
  have h1 := h.nodes; have h2 := h.variant; have h3 := h.ring; have h4 := h.per; have h5 := h.patience
  unfold chk
  have e : (24 : Int) ≤ (c.ring : Int) * (c.per : Int) := by
    have : ((24 : Nat) : Int) ≤ ((c.ring * c.per : Nat) : Int) := Int.ofNat_le.2 h24
    rwa [Int.natCast_mul] at this
  rw [if_pos]
  unfold rightC
  simp only [Bool.and_eq_true, decide_eq_true_eq]
  exact ⟨⟨⟨⟨⟨by omega, by omega⟩, by omega⟩, by omega⟩, e⟩, by omega⟩

theorem start_first (w W : World) (pk bc : Nat) (cfg : Cfg) (hpk : w.heap.size ≤ pk) (hbc : w.heap.size ≤ bc) (hne : pk ≠ bc) (hs : W.heap[pk]? = some (.cells #[.slice none 0 0, .slice none 0 0, .slice none 0 0] 92 (0, 0))) (hb : W.heap[bc]? = some (.cells #[.int .i64 (cfg.nodes : Int), .int .i64 (cfg.variant : Int), .int .i64 (cfg.ring : Int), .int .i64 (cfg.per : Int), .int .i64 (cfg.patience : Int)] 29 (0, 0))) (hk : Keeps (fun _ => False) w W) :
    StartRel w pk bc cfg 0 (fun k => if k = pk then .self else .other) ⟨[], [], [], []⟩ W (.slice none 0 0) (.slice none 0 0) (.slice none 0 0) := by
  refine ⟨⟨hs, if_pos rfl, ⟨World.ownsRow_nil _ _ _ _, fun k e => by cases e⟩, ⟨World.ownsRow_nil _ _ _ _, fun k e => by cases e⟩, ⟨World.ownsRow_nil _ _ _ _, fun k e => by cases e⟩, rfl, fun i n p h => by simp at h, ⟨by simp, by simp, by simp⟩⟩, ⟨rfl, fun i n h => by simp at h⟩, rfl, rfl, fun k hk' => if_neg (by omega), fun k i t e => ?_, hb, if_neg (fun e => hne e.symm), hk⟩
  by_cases h : k = pk
  · simp [h] at e
  · simp [h] at e

def StartOut (cfg : Cfg) (w : World) (pk : Nat) (w' : World) : Prop := ∃ c K, KAt c w' pk K 1 ∧ Started cfg cfg.nodes K.ns ∧ K.net = [] ∧ K.trace = [] ∧ (∀ k, k < w.heap.size → c k = .other) ∧ Keeps (fun _ => False) w w'

set_option maxRecDepth 100000 in
set_option maxHeartbeats 2000000 in
theorem start_ok (cfg : Cfg) (w : World) (hc : CfgOk cfg) (h24 : 24 ≤ cfg.ring * cfg.per) :
    Calls Tryz.prog 42 #[cfgV cfg] w fun e w' => ∃ pk, e = .returned (.tuple #[.pointer (some ⟨pk, 0, none⟩), .int .i64 0]) ∧ StartOut cfg w pk w' := by
  have hck := fun W => pCheck_any (cfg.nodes : Int) (cfg.variant : Int) (cfg.ring : Int) (cfg.per : Int) (cfg.patience : Int) W
  rw [chk_ok hc h24] at hck
  have h4 := hc.nodes
  have HN : Hid (∀ (j : Nat) (W : World), j < 4 → Calls Tryz.prog 85 #[.int .i64 (j : Int), cfgV cfg] W fun e w' => ∃ p pd bo bp o', e = .returned (.pointer (some ⟨p, 0, none⟩)) ∧ NodeAt o' w' p (newNM j cfg pd bo bp) 1 ∧ (∀ k, k < W.heap.size → o' k = .other) ∧ Keeps (fun _ => False) W w' ∧ W.heap.size ≤ p) := hide (fun j W hj => nodeNew_any j cfg W hj hc)
  obtain ⟨W, hW, hkW, hA⟩ : ∃ W, w.alloc (.cells #[.int .i64 (cfg.nodes : Int), .int .i64 (cfg.variant : Int), .int .i64 (cfg.ring : Int), .int .i64 (cfg.per : Int), .int .i64 (cfg.patience : Int)] 29) = W ∧ Keeps (fun _ => False) w W ∧ W.heap[w.heap.size]? = some (.cells #[.int .i64 (cfg.nodes : Int), .int .i64 (cfg.variant : Int), .int .i64 (cfg.ring : Int), .int .i64 (cfg.per : Int), .int .i64 (cfg.patience : Int)] 29 (0, 0)) := ⟨_, rfl, (Keeps.refl _ w).alloc _, heap_alloc_new _ _⟩
  have a0 := cell_of_heap (o := 0) hA
  have a1 := cell_of_heap (o := 1) hA
  have a2 := cell_of_heap (o := 2) hA
  have a3 := cell_of_heap (o := 3) hA
  have a4 := cell_of_heap (o := 4) hA
  simp at a0 a1 a2 a3 a4
  have hwl := lt_of_heap hA
  clear hc h24
  unfold cfgV at *
  go_enter Tryz.func42, Tryz.ntmps42
  go_wp2_with fail
  go_at_call 77
  refine (hck _).mono ?_
  rintro e w1 ⟨rfl, hk1⟩
  have hA1 := hk1.heap hA (fun f => f)
  have b0 := cell_of_heap (o := 0) hA1
  simp at b0
  have hsz1 := hk1.size
  have hlt1 : w.heap.size < w1.heap.size := by omega
  go_wp2_with fail
  generalize hX : World.alloc w1 _ = X
  have hkX : Keeps (fun _ => False) w1 X := by rw [← hX]; exact (Keeps.refl _ w1).alloc _
  have hP : X.heap[w1.heap.size]? = some (.cells #[.slice none 0 0, .slice none 0 0, .slice none 0 0] 92 (0, 0)) := by
    rw [← hX]; exact heap_alloc_new _ _
  have HS0 : Hid (∃ c K vr vn vt, StartRel w w1.heap.size w.heap.size cfg 0 c K X vr vn vt) := hide ⟨_, _, _, _, _, start_first w X w1.heap.size w.heap.size cfg (by omega) (Nat.le_refl _) (by omega) hP (hkX.heap hA1 (fun f => f)) ((hkW.trans hk1 (fun _ _ f => f)).trans hkX (fun _ _ f => f))⟩
  generalize w1.heap.size = pk at *
  clear hX hkX hP hk1 hA1 b0 hsz1 hkW hA a0 a1 a2 a3 a4 hwl hck hW
  go_loopw [16] (fun i wr => ∃ j : Nat, j ≤ cfg.nodes ∧ i = .int .i64 (j : Int) ∧ Hid (∃ c K vr vn vt, StartRel w pk w.heap.size cfg j c K wr vr vn vt)) (fun i _ => cfg.nodes - (intOf i).toNat)
  case atStart => exact ⟨0, by omega, rfl, HS0⟩
  case round =>
    obtain ⟨j, hj, rfl, HR⟩ := hrel
    by_cases hlt : j < cfg.nodes
    · obtain ⟨c, K, vr, vn, vt, hR⟩ := unhide HR
      obtain ⟨vb, vz, e⟩ : ∃ b z, vr = .slice b K.ps.length z := by
        rcases hR.at_.rowAt with ⟨e, e0⟩ | ⟨gr, cap, e, _⟩
        · exact ⟨none, 0, by rw [e, e0]; rfl⟩
        · exact ⟨_, _, e⟩
      subst e
      have hlt' : (j : Int) < (cfg.nodes : Int) := by omega
      have hself := hR.at_.self
      have c0 := cell_of_heap (o := 0) hself
      have d0 := cell_of_heap (o := 0) hR.boxed
      have d1 := cell_of_heap (o := 1) hR.boxed
      have d2 := cell_of_heap (o := 2) hR.boxed
      have d3 := cell_of_heap (o := 3) hR.boxed
      have d4 := cell_of_heap (o := 4) hR.boxed
      simp at c0 d0 d1 d2 d3 d4
      have hnew := fun W => unhide HN j W (by omega)
      have HR' := hide hR
      clear hR HR HN
      have hpl := lt_of_heap hself
      have hbp : ¬ w.heap.size = pk := fun e => by have h1 := (unhide HR').at_.own; rw [← e, (unhide HR').box] at h1; cases h1
      go_wp2_with fail
      have HB : Hid (∀ (w2 : World), Keeps (fun _ => False) wr.drew w2 → w2.cell? ⟨pk, 0, none⟩ = some (.slice vb K.ps.length vz) ∧ w2.ownsRow 0 93 1 (.slice vb K.ps.length vz) K.ps.length (K.ps.map (fun p => Value.pointer (some ⟨p, 0, none⟩))) ∧ w2.heap[w.heap.size]? = some (.cells #[.int .i64 (cfg.nodes : Int), .int .i64 (cfg.variant : Int), .int .i64 (cfg.ring : Int), .int .i64 (cfg.per : Int), .int .i64 (cfg.patience : Int)] 29 (0, 0)) ∧ w2.heap[pk]? = some (.cells #[.slice vb K.ps.length vz, vn, vt] 92 (0, 0))) := hide (fun w2 r3 => by
        have r3' : Keeps (fun _ => False) wr w2 := ⟨r3.os, r3.tape, r3.output, r3.size, r3.block⟩
        have hR := unhide HR'
        have hs2 := r3'.heap hself (fun f => f)
        have c02 := cell_of_heap (o := 0) hs2
        simp at c02
        exact ⟨c02, (Own.keep hR.at_.row r3' (fun _ _ _ f => f)).1, r3'.heap hR.boxed (fun f => f), hs2⟩)
      have hpn : ¬ (Value.slice vb K.ps.length vz).ownBlock = some pk := fun e => by have h1 : c pk = .row := (unhide HR').at_.row.2 _ e; rw [(unhide HR').at_.own] at h1; cases h1
      have hbn : ¬ (Value.slice vb K.ps.length vz).ownBlock = some w.heap.size := fun e => by have h1 : c w.heap.size = .row := (unhide HR').at_.row.2 _ e; rw [(unhide HR').box] at h1; cases h1
      have h56 : K.ps.length ≤ 4 := (unhide HR').at_.len ▸ (unhide HR').at_.small.2.2
      obtain ⟨iB, hiB, hz0, hz1, hz2⟩ := info_parts infoPN
      go_region_law
        (first
          | (go_simp; go_at_call 85; refine (hnew _).mono ?_; rintro e w2 ⟨p, pd, bo, bp, o', rfl, r1, r2, r3, r4⟩; have HQ := hide (And.intro r1 (And.intro r2 r3)); obtain ⟨c02, hown2, hb2, hs2⟩ := unhide HB w2 r3; have hpl2 := lt_of_heap hs2; have k0 := cell_of_heap (o := 0) hb2; have k1 := cell_of_heap (o := 1) hb2; have k2 := cell_of_heap (o := 2) hb2; have k3 := cell_of_heap (o := 3) hb2; have k4 := cell_of_heap (o := 4) hb2; simp at k0 k1 k2 k3 k4; clear r1 r2 r3 r4)
          | (refine step_append_lies _ (by rfl) _ _ _ (by rfl) 0 93 iB _ 1 8 Tryz.underlying90 hiB hz0 hz1 hz2 rfl (by omega) (.slice vb K.ps.length vz) K.ps.length (K.ps.map (fun p => Value.pointer (some ⟨p, 0, none⟩))) (by rfl) (hown2.alloc _) ⟨w2.heap.size, 0, none⟩ 1 1 [.pointer (some ⟨p, 0, none⟩)] (by rfl) (by rfl) (cell_one_new _ _ _) (fun u hu => by rw [List.mem_singleton] at hu; subst hu; rfl) (by omega) (by unfold maxLen; omega) (by omega) (Nat.zero_le _) (w2.heap.size + 1) (by simp) ?_; intro gg cap w3 hown3 hgrow hat hlt3; have hk3 := keeps_grown ((Keeps.refl _ w2).alloc _) hgrow; have hs3 := hk3.heap hs2 hpn; have hb3 := hk3.heap hb2 hbn; have c03 := cell_of_heap (o := 0) hs3; have f03 := frozen_of_heap (o := 0) hs3; have m0 := cell_of_heap (o := 0) hb3; have m1 := cell_of_heap (o := 1) hb3; have m2 := cell_of_heap (o := 2) hb3; have m3 := cell_of_heap (o := 3) hb3; have m4 := cell_of_heap (o := 4) hb3; simp at c03 m0 m1 m2 m3 m4))
      all_goals
        go_wp2_with fail
        go_roundw
        case rel =>
          refine ⟨j + 1, by omega, by go_num, ?_⟩
          have hq := unhide HQ
          have r3' : Keeps (fun _ => False) wr w2 := ⟨hq.2.2.os, hq.2.2.tape, hq.2.2.output, hq.2.2.size, hq.2.2.block⟩
          obtain ⟨c', K', h'⟩ := (unhide HR').next (by omega) hq.1 hq.2.1 r3' hk3 hown3 (fun k e => by
            simp only [Value.ownBlock, Option.some.injEq] at e
            subst e
            rcases hat with e | e
            · exact .inl e
            · exact .inr (by omega))
          exact hide ⟨c', K', _, _, _, h'⟩
        case measure => simp [intOf]; omega
    · obtain ⟨c, K, vr, vn, vt, hR⟩ := unhide HR
      have hge : ¬ (j : Int) < (cfg.nodes : Int) := by omega
      have hj' : j = cfg.nodes := by omega
      subst hj'
      have HE : Hid (StartOut cfg w pk wr) := hide ⟨c, K, ⟨_, _, _, hR.at_⟩, hR.ns, hR.net, hR.trace, hR.old, hR.keep⟩
      clear hR HR
      go_wp2
      go_ret2
      exact ⟨pk, rfl, unhide HE⟩

end Go.Proofs.YthbmmbgkchiajaaGreat
