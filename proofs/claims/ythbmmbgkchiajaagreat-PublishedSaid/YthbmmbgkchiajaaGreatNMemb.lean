
/- The members of a set; messages to all of them. -/
import Derived.Test.YthbmmbgkchiajaaGreatNSend
import Derived.Test.YthbmmbgkchiajaaGreatNMark

namespace Go.Proofs.YthbmmbgkchiajaaGreat
set_option linter.unusedSimpArgs false
set_option linter.unusedVariables false
open Go.RowKit

def inApp (args : Array Value) : Sem Value := Builtin.append_ #[25, 25] 25 args
theorem inApp_eq (args : Array Value) : Builtin.append_ #[25, 25] 25 args = inApp args := rfl
theorem infoInt' : (Tryz.prog.info? 3).map (fun i => (i.zero, i.size, i.bytes)) = some (some (.int .i64 0), 1, 8) := by kernel_rfl

theorem run_appI (W : World) (v x : Value) (n : Nat) (xs : List Value) (hx : x.oneCell' = true) (hown : W.ownsRow 0 3 1 v n xs) (hn : n ≤ 1000) :
    ∃ g cap W', (inApp #[v, .slice (some ⟨W.heap.size, 0, none⟩) 1 1]).run Tryz.prog (W.alloc (.cells #[x] 3)) = .ok (.slice (some ⟨g, 0, none⟩) (n + 1) cap) W' ∧ Hid (W'.ownsRow 0 3 1 (.slice (some ⟨g, 0, none⟩) (n + 1) cap) (n + 1) (xs ++ [x]) ∧ Keeps (fun k => v.ownBlock = some k) W W' ∧ (v.ownBlock = some g ∨ W.heap.size < g) ∧ n + 1 ≤ cap) := by
  obtain ⟨iB, hiB, hz0, hz1, hz2⟩ := info_parts infoInt'
  have hkA : Keeps (fun _ => False) W (W.alloc (.cells #[x] 3)) := (Keeps.refl _ _).alloc _
  obtain ⟨v', W', r0, r1, r2, _, r4⟩ := run_append_own_at (P := Tryz.prog) (W.alloc (.cells #[x] 3)) 0 25 25 3 iB _ 1 8 Tryz.underlying25 hiB hz0 hz1 hz2 rfl (by omega) v n xs (hown.alloc _) ⟨W.heap.size, 0, none⟩ 1 1 [x] rfl
    (cell_one_new _ _ _) (fun u hu => by rw [List.mem_singleton] at hu; subst hu; exact hx) (by unfold maxLen; omega) (by omega) (Nat.zero_le _)
  rcases r1.2 with ⟨_, h0⟩ | ⟨g', c', cur, rfl, _, hg', hc', _, hsz, ht⟩
  · omega
  · refine ⟨g', c', W', r0, hide ⟨r1, ?_, ?_, hc'⟩⟩
    · exact (hkA.mono (T := fun k => v.ownBlock = some k) (fun _ _ f => f.elim)).grown r2 (fun k hk _ => hk)
    · rcases r4 with r4 | r4
      · exact .inl (by simpa [Value.ownBlock] using r4.symm)
      · refine .inr ?_
        simp only [Value.ownBlock, Option.some.injEq] at r4
        rw [r4]; simp
attribute [local go_sem ↓] inApp_eq

def icell (i : Nat) : Value := .int .i64 (i : Int)
def bits (s j : Nat) : List Nat := (List.range j).filter (fun i => s.testBit i)
theorem bits_yes {s j : Nat} (h : s.testBit j = true) : bits s (j + 1) = bits s j ++ [j] := by unfold bits; rw [List.range_succ, List.filter_append]; simp [h]
theorem bits_no {s j : Nat} (h : s.testBit j = false) : bits s (j + 1) = bits s j := by unfold bits; rw [List.range_succ, List.filter_append]; simp [h]
theorem bits_len (s j : Nat) : (bits s j).length ≤ j := Nat.le_trans (List.length_filter_le _ _) (by simp)

def BitsRel (w : World) (s j : Nat) (v : Value) (wr : World) : Prop := wr.ownsRow 0 3 1 v (bits s j).length ((bits s j).map icell) ∧ Keeps (fun _ => False) w wr ∧ ∀ k, v.ownBlock = some k → w.heap.size ≤ k

theorem BitsRel.step {w wr W' : World} {s j g cap : Nat} {v : Value} (h : BitsRel w s j v wr) (hb : s.testBit j = true)
    (h1 : W'.ownsRow 0 3 1 (.slice (some ⟨g, 0, none⟩) ((bits s j).length + 1) cap) ((bits s j).length + 1) ((bits s j).map icell ++ [icell j])) (h2 : Keeps (fun k => v.ownBlock = some k) wr W') (h3 : v.ownBlock = some g ∨ wr.heap.size < g) :
    BitsRel w s (j + 1) (.slice (some ⟨g, 0, none⟩) ((bits s j).length + 1) cap) W' := by
  unfold BitsRel
  rw [bits_yes hb, List.length_append, List.length_singleton, List.map_append, List.map_singleton]
  refine ⟨h1, ?_, fun k hk => ?_⟩
  · refine h.2.1.trans (h2.mono (T := fun k => w.heap.size ≤ k) (fun k _ e => h.2.2 k e)) (fun i hi e => by omega)
  · simp only [Value.ownBlock, Option.some.injEq] at hk
    subst hk
    rcases h3 with h3 | h3
    · exact h.2.2 _ h3
    · have := h.2.1.size; omega

set_option maxRecDepth 100000 in
set_option maxHeartbeats 400000 in
theorem sMembers_any (s : Nat) (w : World) (hs : s < 16) :
    Calls Tryz.prog 226 #[.int .i64 (s : Int)] w fun e w' => ∃ v, e = .returned v ∧ BitsRel w s 4 v w' := by
  have HR0 : Hid (BitsRel w s 0 (.slice none 0 0) w) := hide ⟨World.ownsRow_nil _ _ _ _, Keeps.refl _ _, fun k e => by simp [Value.ownBlock] at e⟩
  go_enter Tryz.func226, Tryz.ntmps226
  go_wp2
  go_loopw [3, 5] (fun v i wr => ∃ j : Nat, j ≤ 4 ∧ i = .int .i64 j ∧ Hid (BitsRel w s j v wr)) (fun _ i _ => 4 - (intOf i).toNat)
  case atStart => exact ⟨0, by omega, rfl, HR0⟩
  case round =>
    obtain ⟨j, hj, rfl, HR⟩ := hrel
    by_cases hlt : j < 4
    · have hlt' : (j : Int) < 4 := by omega
      have hhas := fun W => sHas_any s j W hs hlt
      cases hb : s.testBit j with
      | false =>
        rw [hb] at hhas
        have HB := hide hb
        clear hb
        go_wp2_with (go_at_call 86; refine (hhas _).mono ?_; rintro e w1 ⟨rfl, rfl⟩)
        go_roundw
        case rel => exact ⟨j + 1, by omega, by go_num, hide (by have := unhide HR; unfold BitsRel at *; rw [bits_no (unhide HB)]; exact this)⟩
        case measure => simp [intOf]; omega
      | true =>
        rw [hb] at hhas
        have hR := unhide HR
        have hbl := bits_len s j
        obtain ⟨g, cap, W', hr, HQ⟩ := run_appI wr u3 (icell j) _ _ rfl hR.1 (by omega)
        have HS := hide (hR.step hb (unhide HQ).1 (unhide HQ).2.1 (unhide HQ).2.2.1)
        have HB := hide hb
        rw [show icell j = .int .i64 (j : Int) from rfl] at hr
        clear hb hR
        go_wp2_with (go_at_call 86; refine (hhas _).mono ?_; rintro e w1 ⟨rfl, rfl⟩)
        go_roundw
        case rel => exact ⟨j + 1, by omega, by go_num, HS⟩
        case measure => simp [intOf]; omega
    · have HJ := hide (show j = 4 by omega)
      go_wp2
      go_ret
      have hR := unhide HR
      rw [unhide HJ] at hR
      exact ⟨u3, rfl, hR⟩

end Go.Proofs.YthbmmbgkchiajaaGreat

/- Messages to all of a set. -/
namespace Go.Proofs.YthbmmbgkchiajaaGreat
set_option linter.unusedSimpArgs false
set_option linter.unusedVariables false
open Go.RowKit

theorem bits_slice {w wr : World} {s : Nat} {v : Value} (h : BitsRel w s 4 v wr) : ∃ ao cap, v = .slice ao (members s).length cap ∧ (members s).length ≤ cap ∧ ∀ j, j < (members s).length → ∃ g, ao = some ⟨g, 0, none⟩ ∧ w.heap.size ≤ g ∧ wr.cell? ⟨g, j, none⟩ = some (.int .i64 (((members s).getD j 0 : Nat) : Int)) := by
  obtain ⟨h1, h2, h3⟩ := h
  have e : bits s 4 = members s := rfl
  rw [e] at h1
  rcases h1.2 with ⟨rfl, h0⟩ | ⟨g', c', cur, rfl, _, hg', hc', _, hsz, ht⟩
  · exact ⟨none, 0, by rw [h0], by omega, fun j hj => by omega⟩
  · refine ⟨_, c', rfl, hc', fun j hj => ⟨g', rfl, h3 g' rfl, ?_⟩⟩
    rw [cell_of_heap hg']
    have := congrArg (fun l => l[j]?) ht
    simp only [Nat.mul_one] at this
    rw [List.getElem?_take, if_pos hj, List.getElem?_map, List.getElem?_eq_getElem hj] at this
    rw [List.getD_eq_getElem?_getD, List.getElem?_eq_getElem hj]
    simpa [icell] using this

def NM.sends (n : NM) (kind : Nat) (t : Tx) (l : List Nat) : NM := l.foldl (fun n i => n.send kind i t) n
theorem sends_snoc (n : NM) (kind : Nat) (t : Tx) (l : List Nat) (i : Nat) : n.sends kind t (l ++ [i]) = (n.sends kind t l).send kind i t := by simp [NM.sends]
theorem members_le (s : Nat) : (members s).length ≤ 4 := bits_len s 4

set_option maxRecDepth 100000 in
set_option maxHeartbeats 400000 in
theorem sendAll_any (o : Nat → Tag) (p B kind s : Nat) (n : NM) (t : Tx) (w : World) (h : NodeAt o w p n B) (hs : s < 16) (hB : B + 4 ≤ 1099511627776) :
    Calls Tryz.prog 157 #[.pointer (some ⟨p, 0, none⟩), .int .i64 (kind : Int), .int .i64 (s : Int), txv t] w fun e w' => e = .returned (.tuple #[]) ∧ NPost o w p (n.sendAll kind s t) (B + 4) w' := by
  obtain ⟨W, hW, hkA, hA, hwl⟩ := boxTx w t
  have hmem := sMembers_any s W hs
  have hml := members_le s
  show Calls Tryz.prog 157 #[.pointer (some ⟨p, 0, none⟩), .int .i64 (kind : Int), .int .i64 (s : Int), txv t] w fun e w' => e = .returned (.tuple #[]) ∧ NPost o w p (n.sends kind t (members s)) (B + 4) w'
  have hbr := fun v w' (h : BitsRel W s 4 v w') => bits_slice h
  have hsend := send_any
  generalize members s = ms at *
  unfold txv at *
  have HA := hide hA
  have HN := hide h
  clear h hA
  go_enter Tryz.func157, Tryz.ntmps157
  go_wp2_with fail
  clear hW
  go_at_call 226
  refine hmem.mono ?_
  rintro e W1 ⟨v, rfl, hR⟩
  have hk1 := hkA.trans hR.2.1 (fun _ _ f => f)
  obtain ⟨ao, cap, rfl, hcap, hcells⟩ := hbr _ _ hR
  have hA1 := hR.2.1.heap (unhide HA) (fun f => f)
  have HR0 : Hid (NPost (tagsUp o w .other) W1 p (n.sends kind t (ms.take 0)) (B + 0) W1) := hide (NPost.refl ((unhide HN).begin hk1))
  have ho0 : tagsUp o w .other w.heap.size = .other := tagsUp_new (Nat.le_refl _)
  clear hR HA hmem hbr
  go_wp2_with fail
  go_loopw [13] (fun i wr => ∃ j : Nat, j ≤ ms.length ∧ i = .int .i64 j ∧ Hid (NPost (tagsUp o w .other) W1 p (n.sends kind t (ms.take j)) (B + j) wr)) (fun i _ => ms.length - (intOf i).toNat)
  case atStart => exact ⟨0, by omega, rfl, HR0⟩
  case round =>
    obtain ⟨j, hj, rfl, HR⟩ := hrel
    by_cases hlt : j < ms.length
    · obtain ⟨g, rfl, hg, hc⟩ := hcells j hlt
      have hog : tagsUp o w .other g = .other := tagsUp_new (by omega)
      have hR := unhide HR
      have hcj := hR.2.cell' hc (fun e => e hog)
      have hAj := hR.frame hA1 ho0
      obtain ⟨d0, d1, d2⟩ := boxTx_cells hAj
      obtain ⟨o2, _, g2, t2, _⟩ := hR.next
      have hse := hsend o2 p (B + j) kind (ms.getD j 0) t _ wr g2 (by omega)
      have HS : Hid (n.sends kind t (ms.take (j + 1)) = (n.sends kind t (ms.take j)).send kind (ms.getD j 0) t) := hide (by rw [List.take_succ_eq_append_getElem hlt, sends_snoc]; congr 1; simp [List.getD, hlt])
      have h0 : (0 : Int) ≤ (j : Int) := Int.natCast_nonneg _
      have hlt' : (j : Int) < (ms.length : Int) := by omega
      have HT := hide t2
      unfold txv at hse
      clear hR hAj hcells g2 t2
      generalize ms.getD j 0 = mj at *
      go_wp2_with (go_at_call 175; refine hse.mono ?_; rintro e w2 ⟨rfl, hres⟩)
      go_roundw
      case rel => exact ⟨j + 1, by omega, by go_num, hide (by rw [unhide HS]; exact (unhide HT) _ _ _ hres)⟩
      case measure => simp [intOf]; omega
    · have HJ := hide (show j = ms.length by omega)
      go_wp2
      go_end0
      refine ⟨rfl, NPost.from hk1 ?_⟩
      have hR := unhide HR
      rw [unhide HJ, List.take_length] at hR
      exact hR.up (by omega) hB

end Go.Proofs.YthbmmbgkchiajaaGreat
