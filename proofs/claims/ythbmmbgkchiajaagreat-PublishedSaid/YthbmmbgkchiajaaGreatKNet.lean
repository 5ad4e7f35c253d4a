
/- Copies of what a cluster tells: its messages and events. -/
import Derived.Test.YthbmmbgkchiajaaGreatKFind
import Derived.Laws.IdiomStrings
import Derived.Shelf.RegionOpenPlain
import Derived.Lib.SliceRun

namespace Go.Proofs.YthbmmbgkchiajaaGreat
set_option linter.unusedSimpArgs false
set_option linter.unusedVariables false
open Go.RowKit

def msApp (args : Array Value) : Sem Value := Builtin.append_ #[42, 42] 42 args
theorem msApp_eq (args : Array Value) : Builtin.append_ #[42, 42] 42 args = msApp args := rfl
def msBuild0 : Sem Value := Instr.buildSlice 42 0 #[]
theorem msBuild0_eq : Instr.buildSlice 42 0 #[] = msBuild0 := rfl
theorem run_msBuild0 (W : World) : msBuild0.run Tryz.prog W = .ok (.slice (some ⟨W.heap.size, 0, none⟩) 0 0) (W.alloc (.cells #[] 54)) := by
  obtain ⟨iB, hiB, hz0, hz1, hz2⟩ := info_parts infoMsg
  have hsz : ∀ W', (sizeOf 54).run Tryz.prog W' = .ok 6 W' := fun W' => run_sizeOf W' (by kernel_rfl)
  unfold msBuild0 Instr.buildSlice
  simp [run_underlying Tryz.underlying42, hsz, newRow, Instr.fill]
  have e : Array.range 0 = #[] := Array.eq_empty_of_size_eq_zero (by simp)
  rw [e, Array.map_empty]
theorem run_msnil (W : World) (a : Option Addr) (n c : Nat) : (binOp .eql 42 (.slice a n c) (.slice none 0 0)).run Tryz.prog W = .ok (.bool a.isNone) W := Lib.run_eql_slice_nil W 42 54 a n c 0 0 Tryz.underlying42

theorem run_msclone (W : World) (g n cap : Nat) (xs : List Value) (h : W.ownsRow 0 54 6 (.slice (some ⟨g, 0, none⟩) n cap) n xs) (h1 : ∀ u ∈ xs, u.oneCell' = true) (hn : n ≤ 1099511627776) :
    ∃ b q z W', (msApp #[.slice (some ⟨W.heap.size, 0, none⟩) 0 0, .slice (some ⟨g, 0, none⟩) n cap]).run Tryz.prog (W.alloc (.cells #[] 54)) = .ok (.slice b q z) W' ∧ Hid (W'.ownsRow 0 54 6 (.slice b q z) n xs ∧ (∀ k, (Value.slice b q z).ownBlock = some k → W.heap.size ≤ k) ∧ Keeps (fun _ => False) W W') := by
  obtain ⟨iB, hiB, hz0, hz1, hz2⟩ := info_parts infoMsg
  have hkA : Keeps (fun _ => False) W (W.alloc (.cells #[] 54)) := (Keeps.refl _ _).alloc _
  have hown : (W.alloc (.cells #[] 54)).ownsRow 0 54 6 (.slice (some ⟨W.heap.size, 0, none⟩) 0 0) 0 [] := ⟨rfl, .inr ⟨W.heap.size, 0, #[], rfl, Nat.zero_le _, heap_alloc_last W _, Nat.le_refl _, Nat.zero_le _, rfl, rfl⟩⟩
  obtain ⟨v', W', r0, r1, r2, _, r4⟩ := run_append_own_at (P := Tryz.prog) (W.alloc (.cells #[] 54)) 0 42 42 54 iB _ 6 48 Tryz.underlying42 hiB hz0 hz1 hz2 msg_zero_size (by omega) (.slice (some ⟨W.heap.size, 0, none⟩) 0 0) 0 [] hown ⟨g, 0, none⟩ n cap xs h.1
    (fun j u hj => by
      have hadd : (⟨g, 0, none⟩ : Addr).add j = ⟨g, j, none⟩ := by unfold Addr.add; split <;> simp_all
      rw [hadd]; exact row_cell (h.alloc _) hj) h1 (by unfold maxLen; omega) (by omega) (Nat.zero_le _)
  obtain ⟨b, q, z, rfl⟩ : ∃ b q z, v' = .slice b q z := by
    rcases r1.2 with ⟨e, _⟩ | ⟨_, _, _, e, _⟩ <;> exact ⟨_, _, _, e⟩
  refine ⟨b, q, z, W', r0, hide ⟨by simpa using r1, fun k hk => ?_, ?_⟩⟩
  · rcases r4 with r4 | r4
    · rw [r4] at hk
      have e : W.heap.size = k := by simpa [Value.ownBlock] using hk
      omega
    · rw [r4] at hk
      have e : W.heap.size + 1 = k := by simpa using hk
      omega
  · exact (hkA.mono (T := fun k => k = W.heap.size) (fun _ _ f => f.elim)).grown r2 (fun k hk _ => by simpa [Value.ownBlock] using hk.symm) |>.mono (fun k hk e => by omega)

attribute [local go_sem ↓] msApp_eq msBuild0_eq
attribute [local go_sem] run_msBuild0

set_option maxRecDepth 100000 in
set_option maxHeartbeats 200000 in
theorem msclone_any (v : Value) (n : Nat) (xs : List Value) (w : World) (h : w.ownsRow 0 54 6 v n xs) (h1 : ∀ u ∈ xs, u.oneCell' = true) (hn : n ≤ 1099511627776) :
    Calls Tryz.prog 50 #[v] w fun e w' => ∃ b q z, e = .returned (.slice b q z) ∧ w'.ownsRow 0 54 6 (.slice b q z) n xs ∧ (∀ k, (Value.slice b q z).ownBlock = some k → w.heap.size ≤ k) ∧ Keeps (fun _ => False) w w' := by
  have h' := h
  rcases h.2 with ⟨e, e0⟩ | ⟨g, cap, cur, e, _⟩
  · subst e
    have hnil := fun W => run_msnil W none 0 0
    have H := hide h
    clear h h'
    go_enter Tryz.func50, Tryz.ntmps50
    go_wp2
    go_ret
    exact ⟨none, 0, 0, rfl, unhide H, fun _ e => (by cases e), Keeps.refl _ _⟩
  · subst e
    have hnil := fun W => run_msnil W (some ⟨g, 0, none⟩) n cap
    obtain ⟨b, q, z, W', hr, HR⟩ := run_msclone w g n cap xs h h1 hn
    clear h h'
    go_enter Tryz.func50, Tryz.ntmps50
    go_wp2
    go_ret
    exact ⟨b, q, z, rfl, unhide HR⟩

def evBuild0 : Sem Value := Instr.buildSlice 48 0 #[]
theorem evBuild0_eq : Instr.buildSlice 48 0 #[] = evBuild0 := rfl
theorem run_evBuild0 (W : World) : evBuild0.run Tryz.prog W = .ok (.slice (some ⟨W.heap.size, 0, none⟩) 0 0) (W.alloc (.cells #[] 56)) := by
  obtain ⟨iB, hiB, hz0, hz1, hz2⟩ := info_parts infoEvent
  have hsz : ∀ W', (sizeOf 56).run Tryz.prog W' = .ok 12 W' := fun W' => run_sizeOf W' (by kernel_rfl)
  unfold evBuild0 Instr.buildSlice
  simp [run_underlying Tryz.underlying48, hsz, newRow, Instr.fill]
  have e : Array.range 0 = #[] := Array.eq_empty_of_size_eq_zero (by simp)
  rw [e, Array.map_empty]
theorem run_evnil (W : World) (a : Option Addr) (n c : Nat) : (binOp .eql 48 (.slice a n c) (.slice none 0 0)).run Tryz.prog W = .ok (.bool a.isNone) W := Lib.run_eql_slice_nil W 48 56 a n c 0 0 Tryz.underlying48

theorem run_evclone (W : World) (g n cap : Nat) (xs : List Value) (h : W.ownsRow 0 56 12 (.slice (some ⟨g, 0, none⟩) n cap) n xs) (h1 : ∀ u ∈ xs, u.oneCell' = true) (hn : n ≤ 1099511627776) :
    ∃ b q z W', (evApp #[.slice (some ⟨W.heap.size, 0, none⟩) 0 0, .slice (some ⟨g, 0, none⟩) n cap]).run Tryz.prog (W.alloc (.cells #[] 56)) = .ok (.slice b q z) W' ∧ Hid (W'.ownsRow 0 56 12 (.slice b q z) n xs ∧ (∀ k, (Value.slice b q z).ownBlock = some k → W.heap.size ≤ k) ∧ Keeps (fun _ => False) W W') := by
  obtain ⟨iB, hiB, hz0, hz1, hz2⟩ := info_parts infoEvent
  have hkA : Keeps (fun _ => False) W (W.alloc (.cells #[] 56)) := (Keeps.refl _ _).alloc _
  have hown : (W.alloc (.cells #[] 56)).ownsRow 0 56 12 (.slice (some ⟨W.heap.size, 0, none⟩) 0 0) 0 [] := ⟨rfl, .inr ⟨W.heap.size, 0, #[], rfl, Nat.zero_le _, heap_alloc_last W _, Nat.le_refl _, Nat.zero_le _, rfl, rfl⟩⟩
  obtain ⟨v', W', r0, r1, r2, _, r4⟩ := run_append_own_at (P := Tryz.prog) (W.alloc (.cells #[] 56)) 0 48 48 56 iB _ 12 96 Tryz.underlying48 hiB hz0 hz1 hz2 ev_zero_size (by omega) (.slice (some ⟨W.heap.size, 0, none⟩) 0 0) 0 [] hown ⟨g, 0, none⟩ n cap xs h.1
    (fun j u hj => by
      have hadd : (⟨g, 0, none⟩ : Addr).add j = ⟨g, j, none⟩ := by unfold Addr.add; split <;> simp_all
      rw [hadd]; exact row_cell (h.alloc _) hj) h1 (by unfold maxLen; omega) (by omega) (Nat.zero_le _)
  obtain ⟨b, q, z, rfl⟩ : ∃ b q z, v' = .slice b q z := by
    rcases r1.2 with ⟨e, _⟩ | ⟨_, _, _, e, _⟩ <;> exact ⟨_, _, _, e⟩
  refine ⟨b, q, z, W', r0, hide ⟨by simpa using r1, fun k hk => ?_, ?_⟩⟩
  · rcases r4 with r4 | r4
    · rw [r4] at hk
      have e : W.heap.size = k := by simpa [Value.ownBlock] using hk
      omega
    · rw [r4] at hk
      have e : W.heap.size + 1 = k := by simpa using hk
      omega
  · exact (hkA.mono (T := fun k => k = W.heap.size) (fun _ _ f => f.elim)).grown r2 (fun k hk _ => by simpa [Value.ownBlock] using hk.symm) |>.mono (fun k hk e => by omega)

attribute [local go_sem ↓] evApp_eq evBuild0_eq
attribute [local go_sem] run_evBuild0

set_option maxRecDepth 100000 in
set_option maxHeartbeats 200000 in
theorem evclone_any (v : Value) (n : Nat) (xs : List Value) (w : World) (h : w.ownsRow 0 56 12 v n xs) (h1 : ∀ u ∈ xs, u.oneCell' = true) (hn : n ≤ 1099511627776) :
    Calls Tryz.prog 55 #[v] w fun e w' => ∃ b q z, e = .returned (.slice b q z) ∧ w'.ownsRow 0 56 12 (.slice b q z) n xs ∧ (∀ k, (Value.slice b q z).ownBlock = some k → w.heap.size ≤ k) ∧ Keeps (fun _ => False) w w' := by
  have h' := h
  rcases h.2 with ⟨e, e0⟩ | ⟨g, cap, cur, e, _⟩
  · subst e
    have hnil := fun W => run_evnil W none 0 0
    have H := hide h
    clear h h'
    go_enter Tryz.func55, Tryz.ntmps55
    go_wp2
    go_ret
    exact ⟨none, 0, 0, rfl, unhide H, fun _ e => (by cases e), Keeps.refl _ _⟩
  · subst e
    have hnil := fun W => run_evnil W (some ⟨g, 0, none⟩) n cap
    obtain ⟨b, q, z, W', hr, HR⟩ := run_evclone w g n cap xs h h1 hn
    clear h h'
    go_enter Tryz.func55, Tryz.ntmps55
    go_wp2
    go_ret
    exact ⟨b, q, z, rfl, unhide HR⟩

theorem msgs_one (l : List Msg) : ∀ u ∈ l.flatMap msgCells, u.oneCell' = true := fun u hu => by
  obtain ⟨e, _, h⟩ := List.mem_flatMap.1 hu
  exact msgCells_one e u h

set_option maxRecDepth 100000 in
set_option maxHeartbeats 200000 in
theorem net_any (c : Nat → CTag) (pk B : Nat) (K : KM) (w : World) (h : KAt c w pk K B) (hB : B ≤ 1099511627776) :
    Calls Tryz.prog 19 #[.pointer (some ⟨pk, 0, none⟩)] w fun e w' => ∃ b q z, e = .returned (.slice b q z) ∧ w'.ownsRow 0 54 6 (.slice b q z) K.net.length (K.net.flatMap msgCells) ∧ (∀ k, (Value.slice b q z).ownBlock = some k → w.heap.size ≤ k) ∧ Keeps (fun _ => False) w w' := by
  obtain ⟨vr, vn, vt, g⟩ := h
  have c1 := cell_of_heap (o := 1) g.self
  simp at c1
  have hc := msclone_any vn K.net.length _ w g.net.1 (msgs_one K.net) (Nat.le_trans g.small.1 hB)
  clear g
  go_enter Tryz.func19, Tryz.ntmps19
  go_wp2_with fail
  go_at_call 50
  refine hc.mono ?_
  rintro e w' ⟨b, q, z, rfl, hr⟩
  have HR := hide hr
  clear hr hc
  go_wp2
  go_ret
  exact ⟨b, q, z, rfl, unhide HR⟩

set_option maxRecDepth 100000 in
set_option maxHeartbeats 200000 in
theorem trace_zero (c : Nat → CTag) (pk B : Nat) (K : KM) (w : World) (h : KAt c w pk K B) (hB : B ≤ 1099511627776) :
    Calls Tryz.prog 23 #[.pointer (some ⟨pk, 0, none⟩), .int .i64 0] w fun e w' => ∃ b q z, e = .returned (.slice b q z) ∧ w'.ownsRow 0 56 12 (.slice b q z) K.trace.length (K.trace.flatMap evCells) ∧ (∀ k, (Value.slice b q z).ownBlock = some k → w.heap.size ≤ k) ∧ Keeps (fun _ => False) w w' := by
  obtain ⟨vr, vn, vt, g⟩ := h
  have c2 := cell_of_heap (o := 2) g.self
  simp at c2
  have hc := evclone_any vt K.trace.length _ w g.trace.1 (evs_one K.trace) (Nat.le_trans g.small.2.1 hB)
  have hs := g.small.2.1
  rcases g.trace.1.2 with ⟨e, e0⟩ | ⟨gt, cap, cur, e, _, _, hcap, hmax, _⟩
  · subst e
    rw [e0] at hc ⊢
    have H0 := hide e0
    clear g e0
    go_enter Tryz.func23, Tryz.ntmps23
    go_wp2_with fail
    go_at_call 55
    refine hc.mono ?_
    rintro e w' ⟨b, q, z, rfl, hr⟩
    have HR := hide hr
    clear hr hc
    go_wp2
    go_ret
    exact ⟨b, q, z, rfl, unhide HR⟩
  · subst e
    clear g
    unfold maxLen at hmax
    generalize K.trace.length = L at *
    have h0 : (0 : Int) ≤ (L : Int) := Int.natCast_nonneg _
    have hmin : min (0 : Int) (L : Int) = 0 := by omega
    go_enter Tryz.func23, Tryz.ntmps23
    go_wp2_with fail
    go_at_call 55
    refine hc.mono ?_
    rintro e w' ⟨b, q, z, rfl, hr⟩
    have HR := hide hr
    clear hr hc
    go_wp2
    go_ret
    exact ⟨b, q, z, rfl, unhide HR⟩

end Go.Proofs.YthbmmbgkchiajaaGreat

/- A message is taken out of those that are on their way. -/
namespace Go.Proofs.YthbmmbgkchiajaaGreat
set_option linter.unusedSimpArgs false
set_option linter.unusedVariables false
open Go.RowKit

def msZeros : List Value := List.replicate 6 (.int .i64 0)
theorem run_msClear (W : World) (ty g o c : Nat) (cur : Array Value) (hg : W.heap[g]? = some (.cells cur 54 (0, 0))) (ho : o + 6 ≤ cur.size) :
    (Builtin.clear_ #[42] ty #[.slice (some ⟨g, o, none⟩) 1 c]).run Tryz.prog W = .ok (.tuple #[]) (W.setCells g o msZeros) := by
  obtain ⟨i0, hi0, hz0, hz1, hz2⟩ := info_parts infoMsg
  have hst := run_storeCells_cells (P := Tryz.prog) g o msZeros 0 W (fun j hj => by
    rw [cell_of_heap hg, Nat.add_zero]
    have : j < 6 := hj
    rw [Array.getElem?_eq_getElem (by omega)]; rfl) (fun j hj => by rw [Nat.add_zero]; exact frozen_of_heap hg) (fun v hv => by
    have := List.eq_of_mem_replicate hv
    subst this; rfl)
  unfold Builtin.clear_
  simp [run_underlying Tryz.underlying42, zeroValue, typeInfo, hi0, hz0]
  have e : (Builtin.zeroCells (Value.agg (Array.replicate 6 (Value.int IntKind.i64 0))).cells 1).toList = msZeros := by kernel_rfl
  rw [e, hst]
  rfl

set_option maxRecDepth 100000 in
set_option maxHeartbeats 1000000 in
theorem del_any (g cap n i : Nat) (xs : List Value) (w : World) (h : w.ownsRow 0 54 6 (.slice (some ⟨g, 0, none⟩) n cap) n xs) (h1 : ∀ u ∈ xs, u.oneCell' = true) (hi : i < n) (hn : n ≤ 1099511627776) :
    Calls Tryz.prog 92 #[.slice (some ⟨g, 0, none⟩) n cap, .int .i64 (i : Int), .int .i64 ((i + 1 : Nat) : Int)] w fun e w' => e = .returned (.slice (some ⟨g, 0, none⟩) (n - 1) cap) ∧ w'.ownsRow 0 54 6 (.slice (some ⟨g, 0, none⟩) (n - 1) cap) (n - 1) (xs.take (i * 6) ++ xs.drop ((i + 1) * 6)) ∧ Keeps (fun k => k = g) w w' := by
  obtain ⟨i0, hi0, hz0, hz1, hz2⟩ := info_parts infoMsg
  have hxl := h.1
  rcases h.2 with ⟨e, _⟩ | ⟨g', cap', cur, e, _, hg, hc, hmax, hsz, ht⟩
  · cases e
  cases e
  unfold maxLen at hmax
  obtain ⟨j, hj⟩ : ∃ j, j = i + 1 := ⟨_, rfl⟩
  obtain ⟨m, hm⟩ : ∃ m, m = n - j := ⟨_, rfl⟩
  rw [← hj]
  obtain ⟨news, hnews⟩ : ∃ news, news = xs.drop (j * 6) := ⟨_, rfl⟩
  have hlen : news.length = m * 6 := by rw [hnews, List.length_drop, hxl]; omega
  have hcx : ∀ (t : Nat) (u : Value), xs[t]? = some u → cur[t]? = some u := fun t u hu => by
    have := congrArg (fun l => l[t]?) ht
    rw [hu, List.getElem?_take] at this
    split at this
    · simpa using this
    · cases this
  obtain ⟨A, hA, hsrc⟩ : ∃ A : Addr, (if cap = j then some (⟨g, 0, none⟩ : Addr) else some ⟨g, j * 6, none⟩) = some A ∧ Hid (∀ t u, news[t]? = some u → w.drew.cell? (A.add t) = some u) := by
    by_cases h : cap = j
    · refine ⟨⟨g, 0, none⟩, by simp [h], hide (fun t u hu => ?_)⟩
      have h0 : news.length = 0 := by rw [hlen]; omega
      rw [List.length_eq_zero_iff.1 h0] at hu
      simp at hu
    · refine ⟨⟨g, j * 6, none⟩, by simp [h], hide (fun t u hu => ?_)⟩
      have hadd : (⟨g, j * 6, none⟩ : Addr).add t = ⟨g, j * 6 + t, none⟩ := by unfold Addr.add; split <;> simp_all
      rw [hadd]
      show w.cell? _ = _
      rw [cell_of_heap hg]
      refine hcx _ _ ?_
      rw [hnews, List.getElem?_drop] at hu
      exact hu
  have s1 : Hid (news.length = m * 6) := hide hlen
  have s2 : Hid (∀ u ∈ news, u.oneCell' = true) := hide (fun u hu => h1 u (by rw [hnews] at hu; exact List.mem_of_mem_drop hu))
  have s3 : Hid (∀ t, t < news.length → (w.drew.cell? ⟨g, 0 + i * 6 + t, none⟩).isSome = true ∧ w.drew.frozen? ⟨g, 0 + i * 6 + t, none⟩ = false) := hide (fun t ht => by
    refine ⟨?_, frozen_of_heap (w := w.drew) hg⟩
    show (w.cell? _).isSome = true
    rw [cell_of_heap hg, Array.getElem?_eq_getElem (by omega)]; rfl)
  obtain ⟨W1, hW1⟩ : ∃ W1, W1 = w.drew.setCells g (0 + i * 6) news := ⟨_, rfl⟩
  obtain ⟨cur1, hg1, hsz1, hv1⟩ := heap_setCells news (0 + i * 6) w.drew cur hg (by rw [hlen]; omega)
  rw [← hW1] at hg1
  have hk1 : Keeps (fun k => k = g) w W1 := by rw [hW1]; exact ((Keeps.refl (fun k => k = g) w).drew).trans (keeps_setCells g news _ w.drew) (fun _ _ e => e)
  have hcl := fun ty => run_msClear W1 ty g ((i + m) * 6) (cap - (i + m)) cur1 hg1 (by omega)
  obtain ⟨W2, hW2⟩ : ∃ W2, W2 = W1.setCells g ((i + m) * 6) msZeros := ⟨_, rfl⟩
  obtain ⟨cur2, hg2, hsz2, hv2⟩ := heap_setCells msZeros ((i + m) * 6) W1 cur1 hg1 (by show _ + 6 ≤ _; omega)
  rw [← hW2] at hg2 hcl
  have hk2 : Keeps (fun k => k = g) w W2 := by rw [hW2]; exact hk1.trans (keeps_setCells g msZeros _ W1) (fun _ _ e => e)
  have e1 : n - j = m := hm.symm
  have e2 : n - (i + m) = 1 := by omega
  have HE : Hid (W2.ownsRow 0 54 6 (.slice (some ⟨g, 0, none⟩) (n - 1) cap) (n - 1) (xs.take (i * 6) ++ news) ∧ Keeps (fun k => k = g) w W2) := hide ⟨⟨by rw [List.length_append, List.length_take, hlen, hxl]; omega, .inr ⟨g, cap, cur2, rfl, Nat.zero_le _, hg2, by omega, by unfold maxLen; omega, by rw [hsz2, hsz1]; exact hsz, by
    apply List.ext_getElem?
    intro t
    rw [List.getElem?_take]
    by_cases h2 : t < (n - 1) * 6
    · rw [if_pos h2, Array.getElem?_toList, hv2 t, if_neg (by omega), hv1 t]
      by_cases h3 : t < i * 6
      · rw [if_neg (by omega), List.getElem?_append_left (by rw [List.length_take, hxl]; omega), List.getElem?_take, if_pos h3]
        have hxt : t < xs.length := by rw [hxl]; omega
        rw [List.getElem?_eq_getElem hxt]
        exact hcx _ _ (List.getElem?_eq_getElem hxt)
      · rw [if_pos (by rw [hlen]; omega), List.getElem?_append_right (by rw [List.length_take, hxl]; omega), List.length_take, hxl]
        congr 1
        omega
    · rw [if_neg h2, List.getElem?_eq_none]
      rw [List.length_append, List.length_take, hlen, hxl]; omega⟩⟩, hk2⟩
  rw [← hnews]
  have HW : Hid (W1 = w.drew.setCells g (0 + i * 6) news) := hide hW1
  have hne : ¬ i = j := by omega
  have hij : i ≤ j := by omega
  have hjn : j ≤ n := by omega
  have hin : i ≤ n := by omega
  have hic : i ≤ cap := by omega
  have hjc : j ≤ cap := by omega
  have hqc : ¬ cap = i + m := by omega
  have hqn : i + m ≤ n := by omega
  have HN : Hid (n - 1 = i + m) := hide (by omega)
  clear hW1 hW2 hv1 hv2 hg hg1 hg2 hsz hsz1 hsz2 hk1 hk2 ht hcx hnews h h1 hxl hlen hj hm hi
  go_enter Tryz.func92, Tryz.ntmps92
  go_wp2_with fail
  go_region_law ((refine step_append_room rfl (.tmp 22) (.tmp 25) 42 rfl 54 i0 6 Tryz.underlying42 hi0 hz1 g 0 i cap (by simp [Act.eval, Act.put]) A m (cap - j) news (by simp [Act.eval, Act.put]) (unhide s1) (unhide hsrc) (unhide s2) (by omega) (unhide s3) ?_; rw [← unhide HW]))
  all_goals
    go_wp2
    go_ret
    exact ⟨by rw [unhide HN]; rfl, unhide HE⟩

end Go.Proofs.YthbmmbgkchiajaaGreat
