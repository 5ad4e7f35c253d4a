
/- Building a struct that holds a long array, and a slice of one such struct: laws at whatever cells. -/
import Derived.Test.YthbmmbgkchiajaaGreatBase
import Derived.Deep.RegionLaw

namespace Go.Proofs.YthbmmbgkchiajaaGreat
set_option linter.unusedSimpArgs false
set_option linter.unusedVariables false
open Go.RowKit

theorem put_all (off : Nat) : ∀ (l : List Value) (k : Nat) (cells : Array Value) (i : Nat), off + k + l.length ≤ cells.size →
    ((l.zipIdx k).foldl (fun (cs : Array Value) (x : Value × Nat) => cs.setIfInBounds (off + x.2) x.1) cells)[i]? = if off + k ≤ i ∧ i < off + k + l.length then l[i - (off + k)]? else cells[i]?
  | [], k, cells, i, _ => by
    have : ¬ (off + k ≤ i ∧ i < off + k + ([] : List Value).length) := by simp
    rw [if_neg this]; rfl
  | x :: l, k, cells, i, h => by
    simp only [List.length_cons] at h
    rw [List.zipIdx_cons, List.foldl_cons, put_all off l (k + 1) _ i (by simp; omega)]
    by_cases h1 : off + (k + 1) ≤ i ∧ i < off + (k + 1) + l.length
    · rw [if_pos h1, if_pos (by simp; omega)]
      obtain ⟨d, hd⟩ : ∃ d, i - (off + k) = d + 1 := ⟨i - (off + k) - 1, by omega⟩
      rw [hd, List.getElem?_cons_succ]; congr 1; omega
    · rw [if_neg h1]
      by_cases h2 : i = off + k
      · subst h2
        rw [if_pos (by simp), Nat.sub_self, List.getElem?_cons_zero, Array.getElem?_setIfInBounds_self]
        rw [if_pos (by omega)]
      · rw [if_neg (by simp; omega), Array.getElem?_setIfInBounds_ne (by omega)]

theorem put_over (c cells : Array Value) (h : cells.size = c.size) : (c.zipIdx.foldl (fun (cs : Array Value) (x : Value × Nat) => cs.setIfInBounds (0 + x.2) x.1) cells) = c := by
  apply Array.ext_getElem?
  intro i
  rw [← Array.foldl_toList, Array.toList_zipIdx, put_all 0 c.toList 0 cells i (by simp; omega)]
  by_cases hi : i < c.size
  · rw [if_pos (by simp; omega)]; simp
  · rw [if_neg (by simp; omega)]
    rw [Array.getElem?_eq_none (by omega), Array.getElem?_eq_none (by omega)]

/-- A slice of one element: a new block of its cells. -/
theorem run_buildSlice_one {P : Program} (W : World) (t e : TypeId) (i : TypeInfo) (z v : Value) (sz : Nat) (ht : P.underlying t = some (.slice e)) (hi : P.info? e = some i) (hz : i.zero = some z) (hsz : i.size = sz)
    (hzs : z.cells.size = sz) (h0 : 0 < sz) (h1 : sz ≤ 16777216) (hv : v.cells.size = sz) :
    (Instr.buildSlice t 1 #[(0, v)]).run P W = .ok (.slice (some ⟨W.heap.size, 0, none⟩) 1 1) (W.alloc (.cells v.cells e)) := by
  have hm : ((Array.range (1 * sz)).map (z.cells[· % z.cells.size]!)).size = v.cells.size := by simp [hv]
  have hn : ¬ (1 * sz > 2 ^ 24) := by omega
  have hn' : ¬ (1 * sz = 0) := by omega
  have hf : Instr.fill (fun i => some (i * sz, sz)) ((Array.range (1 * sz)).map (z.cells[· % z.cells.size]!)) [(0, v)] = some v.cells := by
    have := put_over v.cells _ hm
    unfold Instr.fill
    simp only [Nat.zero_mul]
    rw [if_neg (by rw [hm]; simp [hv])]
    unfold Instr.fill
    rw [this]
  simp only [Nat.one_mul] at hf hn hn'
  have hn2 : ¬ (16777216 < sz) := by omega
  simp [Instr.buildSlice, run_underlying ht, typeInfo, hi, sizeOf, zeroValue, hz, hsz, hn2, hn', newRow, hf]

theorem run_buildSlice_cells {P : Program} (W : World) (t e : TypeId) (i : TypeInfo) (z v : Value) (cs : Array Value) (sz : Nat) (ht : P.underlying t = some (.slice e)) (hi : P.info? e = some i) (hz : i.zero = some z) (hsz : i.size = sz)
    (hzs : z.cells.size = sz) (h0 : 0 < sz) (h1 : sz ≤ 16777216) (hc : v.cells = cs) (hv : cs.size = sz) :
    (Instr.buildSlice t 1 #[(0, v)]).run P W = .ok (.slice (some ⟨W.heap.size, 0, none⟩) 1 1) (W.alloc (.cells cs e)) := by
  subst hc
  exact run_buildSlice_one W t e i z v sz ht hi hz hsz hzs h0 h1 hv

theorem fill_cons (place : Nat → Option (Nat × Nat)) (cells : Array Value) (i off size : Nat) (v : Value) (rest : List (Nat × Value)) (hp : place i = some (off, size)) (hv : v.cells.size = size) (hf : off + size ≤ cells.size) :
    Instr.fill place cells ((i, v) :: rest) = Instr.fill place (v.cells.zipIdx.foldl (fun cs (c, j) => cs.setIfInBounds (off + j) c) cells) rest := by
  have h1 : ¬ (cells.size < off + size) := by omega
  simp [Instr.fill, hp, hv, h1]

theorem fill_pair (z : Array Value) (x : Value) (cs : List Value) (hx : x.cells = #[x]) (hz : z.size = cs.length + 1) :
    Instr.fill (#[(0, 1), (1, cs.length)][·]?) z [(0, x), (1, .agg cs.toArray)] = some (x :: cs).toArray := by
  have hs : (x.cells.zipIdx.foldl (fun (cs : Array Value) (y : Value × Nat) => cs.setIfInBounds (0 + y.2) y.1) z) = z.setIfInBounds 0 x := by rw [hx]; rfl
  rw [fill_cons _ _ 0 0 1 x _ rfl (by rw [hx]; rfl) (by omega)]
  rw [hs, fill_cons _ _ 1 1 cs.length (.agg cs.toArray) _ rfl (by simp [Value.cells]) (by simp [hz]; omega)]
  simp only [Value.cells, Instr.fill]
  congr 1
  apply Array.ext_getElem?
  intro i
  rw [← Array.foldl_toList, Array.toList_zipIdx, put_all 1 cs 0 _ i (by simp [hz]; omega)]
  by_cases h : 1 + 0 ≤ i ∧ i < 1 + 0 + cs.length
  · rw [if_pos h]
    obtain ⟨d, rfl⟩ : ∃ d, i = d + 1 := ⟨i - 1, by omega⟩
    simp
  · rw [if_neg h]
    by_cases h0 : i = 0
    · subst h0; simp [hz]
    · rw [Array.getElem?_eq_none (by simp [hz]; omega), Array.getElem?_eq_none (by simp; omega)]

theorem run_arrayAt (W : World) (a : Addr) (cap : Nat) : (Instr.arrayAt 305 (.slice (some a) 64 cap)).run Tryz.prog W = .ok (.pointer (some a)) W := by
  simp [Instr.arrayAt, run_underlying Tryz.underlying305]

theorem sizeSector' : (Tryz.prog.info? 305).map (·.size) = some 64 := by kernel_rfl
/-- The load of a sector, under a name of its own. -/
def secLoad (x : Value) : Sem Value := Instr.loadAt 305 x
theorem secLoad_eq (x : Value) : Instr.loadAt 305 x = secLoad x := rfl
theorem run_secLoad (W : World) (b o : Nat) (cs : List Value) (hr : W.rangeAt b o cs) (hl : cs.length = 64) : (secLoad (.pointer (some ⟨b, o, none⟩))).run Tryz.prog W = .ok (.agg cs.toArray) W :=
  run_loadAt_mid W b o 305 cs _ hr Tryz.underlying305 rfl (by rw [hl]; exact sizeSector')

theorem infoWrite : (Tryz.prog.info? 307).map (fun i => (i.zero, i.size, i.bytes)) = some (some (.agg (Array.replicate 1 (.int .i64 0) ++ Array.replicate 64 (.int .u8 0))), 65, 72) := by kernel_rfl
theorem sizeInt : (Tryz.prog.info? 3).map (·.size) = some 1 := by kernel_rfl
theorem sizeSector : (Tryz.prog.info? 305).map (·.size) = some 64 := by kernel_rfl

theorem run_sizeOf {P : Program} (W : World) {t n : Nat} (h : (P.info? t).map (·.size) = some n) : (sizeOf t).run P W = .ok n W := by
  cases hq : P.info? t with
  | none => simp [hq] at h
  | some i =>
    have : i.size = n := by simpa [hq] using h
    simp [sizeOf, typeInfo, hq, this]

def wcells (i : Int) (cs : List Value) : Array Value := (Value.int .i64 i :: cs).toArray
theorem wcells_size (i : Int) (cs : List Value) : (wcells i cs).size = cs.length + 1 := by simp [wcells]
/-- A write: its place, its bytes. -/
theorem run_build_write (W : World) (i : Int) (cs : List Value) (hc : cs.length = 64) :
    (Instr.build 307 #[(0, .int .i64 i), (1, .agg cs.toArray)]).run Tryz.prog W = .ok (.agg (wcells i cs)) W := by
  obtain ⟨i0, hi, hz0, hz1, hz2⟩ := info_parts infoWrite
  have hf := fill_pair (Array.replicate 1 (.int .i64 0) ++ Array.replicate 64 (.int .u8 0)) (.int .i64 i) cs rfl (by simp [hc])
  rw [hc] at hf
  have hz : (zeroValue 307).run Tryz.prog W = .ok (.agg (Array.replicate 1 (.int .i64 0) ++ Array.replicate 64 (.int .u8 0))) W := by
    simp [zeroValue, typeInfo, hi, hz0]
  unfold Instr.build
  simp only [Sem.run_bind, hz, Result.andThen_ok, run_underlying Tryz.underlying307, Value.cells]
  simp [run_sizeOf _ sizeInt, run_sizeOf _ sizeSector]
  have hf2 := hf
  simp only [Array.replicate_one, List.getElem?_toArray] at hf2
  rw [hf2]
  rfl

end Go.Proofs.YthbmmbgkchiajaaGreat

/- Write, of the program. -/
namespace Go.Proofs.YthbmmbgkchiajaaGreat
set_option linter.unusedSimpArgs false
set_option linter.unusedVariables false
open Go.RowKit

set_option maxRecDepth 100000 in
set_option maxHeartbeats 400000 in
theorem dWrite_no (S : Nat → Prop) (p : Nat) (m : DM) (i : Int) (ao : Option Addr) (len cap : Nat) (w : World) (hD : PDisk S w p m) (hm : m.ok) (h : i < 0 ∨ (m.dur.length : Int) ≤ i ∨ len ≠ 64) (_hs : len ≤ 9223372036854775807) :
    Calls Tryz.prog 190 #[.pointer (some ⟨p, 0, none⟩), .int .i64 i, .slice ao len cap] w fun e w' => e = .returned (.int .i64 1) ∧ w' = w := by
  obtain ⟨vd, vp, hb, hS, hd, hp⟩ := hD
  obtain ⟨ad, cd, rfl, hcap⟩ := hd.len
  have hc := cell_of_heap (o := 0) hb
  simp at hc
  have hn := hm.len.2
  clear hd hp hm hb
  generalize m.dur.length = n at *
  by_cases h1 : i < 0 ∨ (n : Int) ≤ i
  · clear h
    go_enter Tryz.func190, Tryz.ntmps190
    go_wp2_with (go_at_call 254; refine (has_no p n cd ad i _ hc h1 (by omega)).mono ?_; rintro e w' ⟨rfl, rfl⟩)
    go_ret
    exact ⟨rfl, rfl⟩
  · obtain ⟨k, rfl⟩ := Int.eq_ofNat_of_zero_le (a := i) (by omega)
    have h4 : ((len : Int) != 64) = true := by rw [bne_iff_ne]; omega
    have hk : k < n := by omega
    clear h h1
    go_enter Tryz.func190, Tryz.ntmps190
    go_wp2_with (go_at_call 254; refine (has_yes p n cd ad k _ hc hk (by omega)).mono ?_; rintro e w' ⟨rfl, rfl⟩)
    go_ret
    exact ⟨rfl, rfl⟩

theorem write_zero_size : (Value.agg (Array.replicate 1 (.int .i64 0) ++ Array.replicate 64 (.int .u8 0))).cells.size = 65 := by
  show (Array.replicate 1 (Value.int .i64 0) ++ Array.replicate 64 (Value.int .u8 0)).size = 65
  rw [Array.size_append, Array.size_replicate, Array.size_replicate]

theorem run_bs_write (W : World) (i : Int) (cs : List Value) (hbl : cs.length = 64) : (Instr.buildSlice 230 1 #[(0, .agg (wcells i cs))]).run Tryz.prog W = .ok (.slice (some ⟨W.heap.size, 0, none⟩) 1 1) (W.alloc (.cells (wcells i cs) 307)) := by
  obtain ⟨i0, hi0, hz0, hz1, hz2⟩ := info_parts infoWrite
  have hl : (wcells i cs).size = 65 := by rw [wcells_size, hbl]
  generalize wcells i cs = cs at *
  exact run_buildSlice_cells W 230 307 i0 _ (.agg cs) cs 65 Tryz.underlying230 hi0 hz0 hz1 write_zero_size (by omega) (by omega) rfl hl

/-- 'build' and 'buildSlice' at these types, under names of their own: so that the walk's rules do not open them. -/
def wBuild (parts : Array (Nat × Value)) : Sem Value := Instr.build 307 parts
theorem wBuild_eq (parts : Array (Nat × Value)) : Instr.build 307 parts = wBuild parts := rfl
theorem run_wBuild (W : World) (i : Int) (cs : List Value) (hc : cs.length = 64) : (wBuild #[(0, .int .i64 i), (1, .agg cs.toArray)]).run Tryz.prog W = .ok (.agg (wcells i cs)) W := run_build_write W i cs hc
def wSlice (parts : Array (Nat × Value)) : Sem Value := Instr.buildSlice 230 1 parts
theorem wSlice_eq (parts : Array (Nat × Value)) : Instr.buildSlice 230 1 parts = wSlice parts := rfl
theorem run_wSlice (W : World) (i : Int) (cs : List Value) (hc : cs.length = 64) : (wSlice #[(0, .agg (wcells i cs))]).run Tryz.prog W = .ok (.slice (some ⟨W.heap.size, 0, none⟩) 1 1) (W.alloc (.cells (wcells i cs) 307)) := run_bs_write W i cs hc
attribute [local go_sem ↓] wBuild_eq wSlice_eq secLoad_eq
attribute [local go_sem] run_wBuild run_wSlice


set_option maxRecDepth 100000 in
set_option maxHeartbeats 400000 in
theorem dWrite_yes (S : Nat → Prop) (p : Nat) (m : DM) (i gb cap : Nat) (s : ByteArray) (w : World) (hD : PDisk S w p m) (hm : m.ok) (hi : i < m.dur.length) (hs : s.size = 64) (hN : (m.puts.length + 1) * 72 ≤ 140737488355328)
    (hr : w.rangeAt gb 0 (bcells s)) (hgb : gb < w.heap.size) (hgS : ¬ S gb) (_h64 : 64 ≤ cap) :
    Calls Tryz.prog 190 #[.pointer (some ⟨p, 0, none⟩), .int .i64 i, .slice (some ⟨gb, 0, none⟩) 64 cap] w fun e w' => e = .returned (.int .i64 0) ∧ PDisk (fun k => S k ∨ w.heap.size ≤ k) w' p (m.put i s) ∧ Keeps S w w' := by
  obtain ⟨vd, vp, hb, hS, hd, hp⟩ := hD
  have hd0 := hd
  obtain ⟨ad, cd, rfl, hcap⟩ := hd.len
  have hc := cell_of_heap (o := 0) hb
  have hc1 := cell_of_heap (o := 1) hb
  simp at hc hc1
  have hn := hm.len.2
  have hbl : (bcells s).length = 64 := by rw [bcells_length, hs]
  obtain ⟨i0, hi0, hz0, hz1, hz2⟩ := info_parts infoWrite
  have hpn : ¬ vp.ownBlock = some p := fun e => (hp.2 _ e).2.1 rfl
  have hplt := lt_of_heap hb
  have haa := fun W => run_arrayAt W ⟨gb, 0, none⟩ cap
  go_enter Tryz.func190, Tryz.ntmps190
  go_wp2_with (go_at_call 254; refine (has_yes p m.dur.length cd ad i _ hc hi (by omega)).mono ?_; rintro e w' ⟨rfl, rfl⟩)
  have hld : (secLoad (.pointer (some ⟨gb, 0, none⟩))).run Tryz.prog w'.drew = .ok (.agg (bcells s).toArray) w'.drew := run_secLoad _ gb 0 _ (by simpa using hr) hbl
  go_region_law ((refine step_append_lies _ (by rfl) _ _ _ (by rfl) 0 307 i0 _ 65 72 Tryz.underlying230 hi0 hz0 hz1 hz2 write_zero_size (by omega) vp m.puts.length (putCells m.puts) (by rfl) ((hp.1.alloc _).drew) ⟨w'.heap.size, 0, none⟩ 1 1 (putCell (i, s)) (by rfl) (by rw [putCell_length _ hs]) (World.news_of_block (cs := wcells i (bcells s)) (t := 307) (fr := (0, 0)) (by exact heap_alloc_new _ _)) (putCell_one _) (by omega) (by unfold maxLen; omega) (by omega) (Nat.zero_le _) (w'.heap.size + 1) (by simp) ?_; intro gg cap' w1 hown1 hgrow hat hlt1; have hk1 := keeps_grown ((Keeps.refl _ w').alloc _).drew hgrow; have hb1 := hk1.heap hb hpn; have hc2 := cell_of_heap (o := 1) hb1; have hf2 := frozen_of_heap (o := 1) hb1; simp at hc2; have hr2 := hk1.range hr hgb (fun e => hgS (hp.2 _ e).1)))
  all_goals
    go_wp2
    go_ret
    obtain ⟨g1, g2⟩ := Two.append hb hS hd0 hp hk1 hown1 hat (by omega)
    refine ⟨rfl, ?_, g2⟩
    unfold PDisk DM.put putCells
    rw [List.length_append, List.flatMap_append, List.length_singleton, List.flatMap_singleton]
    exact g1

end Go.Proofs.YthbmmbgkchiajaaGreat

/- Read, of the document. -/
namespace Go.Proofs.YthbmmbgkchiajaaGreat
set_option linter.unusedSimpArgs false
set_option linter.unusedVariables false
open Go.RowKit

theorem ret_str {s t : ByteArray} {n : Int} (h : s = t) : Ending.returned (.tuple #[.string s, .int .i64 n]) = .returned (.tuple #[.string t, .int .i64 n]) := by rw [h]

set_option maxRecDepth 100000 in
set_option maxHeartbeats 400000 in
theorem rRead_no (S : Nat → Prop) (p : Nat) (m : DM) (i : Int) (w : World) (hD : RDisk S w p m) (hm : m.ok) (h : i < 0 ∨ (m.dur.length : Int) ≤ i) :
    Calls Tryz.prog 193 #[.pointer (some ⟨p, 0, none⟩), .int .i64 i] w fun e w' => e = .returned (.tuple #[.string ByteArray.empty, .int .i64 1]) ∧ w' = w := by
  obtain ⟨vd, vp, hb, hS, hd, hp⟩ := hD
  obtain ⟨ao, cap, rfl, hcap⟩ := hd.len
  have hc := cell_of_heap (o := 0) hb
  simp at hc
  have hn := hm.len.2
  clear hd hp hm hb
  generalize m.dur.length = n at *
  by_cases h1 : i < 0
  · have h0 : decide (i < 0) = true := by simp; omega
    clear h
    go_enter Tryz.func193, Tryz.ntmps193
    go_wp2
    go_ret2
    exact ⟨rfl, rfl⟩
  · have h0 : decide (i < 0) = false := by simp; omega
    have h3 : decide ((n : Int) ≤ i) = true := by simp; omega
    clear h
    go_enter Tryz.func193, Tryz.ntmps193
    go_wp2
    go_ret2
    exact ⟨rfl, rfl⟩

set_option maxRecDepth 100000 in
set_option maxHeartbeats 800000 in
theorem rRead_yes (S : Nat → Prop) (p : Nat) (m : DM) (i : Nat) (w : World) (hD : RDisk S w p m) (hm : m.ok) (hi : i < m.dur.length) (hN : m.puts.length * 72 ≤ 140737488355328) :
    Calls Tryz.prog 193 #[.pointer (some ⟨p, 0, none⟩), .int .i64 i] w fun e w' => e = .returned (.tuple #[.string (m.read i), .int .i64 0]) ∧ w' = w := by
  obtain ⟨vd, vp, hb, hS, hd, hp⟩ := hD
  obtain ⟨g, cap, rfl, hcap, _, _, hcell, _⟩ := hd.open (by omega)
  have hc := cell_of_heap (o := 0) hb
  have hc1 := cell_of_heap (o := 1) hb
  simp at hc hc1
  have hn := hm.len.2
  have h0 : decide ((i : Int) < 0) = false := by simp
  have h3 : decide ((m.dur.length : Int) ≤ (i : Int)) = false := by simp; omega
  have hci : w.cell? ⟨g, i, none⟩ = some (.string (m.dur.getD i ByteArray.empty)) := hcell i _ (by simp [rdurCells, List.getD, hi])
  clear hcell hd hb
  obtain ⟨ap, cp, rfl, hcp⟩ := hp.len
  have hpc : ∀ k, k < m.puts.length → ∃ gp, ap = some ⟨gp, 0, none⟩ ∧ w.cell? ⟨gp, k * 2, none⟩ = some (.int .i64 ((m.puts.getD k (0, ByteArray.empty)).1 : Nat)) ∧ w.cell? ⟨gp, k * 2 + 1, none⟩ = some (.string (m.puts.getD k (0, ByteArray.empty)).2) := by
    intro k hk
    obtain ⟨gp, cap', hv, _, _, _, hpcell, _⟩ := hp.open (by omega)
    cases hv
    have hg : m.puts[k]? = some (m.puts.getD k (0, ByteArray.empty)) := by simp [List.getD, hk]
    refine ⟨gp, rfl, hpcell _ _ ?_, hpcell _ _ ?_⟩
    · have := flat_get rputCell 2 m.puts k 0 _ (fun _ _ => rfl) hg (by omega)
      exact this.trans rfl
    · have := flat_get rputCell 2 m.puts k 1 _ (fun _ _ => rfl) hg (by omega)
      exact this.trans rfl
  have HR : Hid (m.read i = lastPut (m.puts.take m.puts.length) i (m.dur.getD i ByteArray.empty)) := by rw [List.take_length]; rfl
  clear hp hm
  generalize m.dur.getD i ByteArray.empty = s0 at *
  go_enter Tryz.func193, Tryz.ntmps193
  go_wp2
  go_loop [6, 7] (fun t k => ∃ j : Nat, j ≤ m.puts.length ∧ k = .int .i64 j ∧ t = .string (lastPut (m.puts.take j) i s0)) (fun _ k => m.puts.length - (intOf k).toNat)
  case atStart => exact ⟨0, Nat.zero_le _, rfl, rfl⟩
  case round =>
    obtain ⟨j, hj, rfl, rfl⟩ := hrel
    by_cases hlt : j < m.puts.length
    · obtain ⟨gp, rfl, k0, k1⟩ := hpc j hlt
      have hs : m.puts.take (j + 1) = m.puts.take j ++ [m.puts.getD j (0, ByteArray.empty)] := by
        rw [List.take_succ_eq_append_getElem hlt]; simp [List.getD, hlt]
      have HS : Hid (lastPut (m.puts.take (j + 1)) i s0 = if (m.puts.getD j (0, ByteArray.empty)).1 = i then (m.puts.getD j (0, ByteArray.empty)).2 else lastPut (m.puts.take j) i s0) := by
        show lastPut (m.puts.take (j + 1)) i s0 = _
        rw [hs, lastPut_snoc]
      clear hs hpc
      generalize m.puts.getD j (0, ByteArray.empty) = x at *
      obtain ⟨x1, x2⟩ := x
      simp only at k0 k1 HS
      by_cases he : x1 = i
      · have hb : ((x1 : Int) == (i : Int)) = true := by simp [he]
        go_wp2
        go_round
        case rel => exact ⟨j + 1, by omega, by go_num, by rw [HS.out, if_pos he]⟩
        case measure => simp [intOf]; omega
      · have hb : ((x1 : Int) == (i : Int)) = false := by simp; omega
        go_wp2
        go_round
        case rel => exact ⟨j + 1, by omega, by go_num, by rw [HS.out, if_neg he]⟩
        case measure => simp [intOf]; omega
    · have hjn : j = m.puts.length := by omega
      have HJ : Hid (j = m.puts.length) := hjn
      clear hjn
      go_wp2
      go_ret2
      exact ⟨ret_str (by rw [HR.out, HJ.out]), rfl⟩

end Go.Proofs.YthbmmbgkchiajaaGreat

/- Read, of the program. -/
namespace Go.Proofs.YthbmmbgkchiajaaGreat
set_option linter.unusedSimpArgs false
set_option linter.unusedVariables false
open Go.RowKit

theorem Own.range {S : Nat → Prop} {w : World} {e size n cap g : Nat} {xs : List Value} (h : Own S w e size (.slice (some ⟨g, 0, none⟩) n cap) n xs) {o : Nat} {cs : List Value} (hs : ∀ j, j < cs.length → xs[o + j]? = cs[j]?) : w.rangeAt g o cs := by
  obtain ⟨⟨hl, hv⟩, hS⟩ := h
  rcases hv with ⟨h0, _⟩ | ⟨g', cap', cur, h0, _, hg, hc, _, hsz, ht⟩
  · cases h0
  · cases h0
    intro j v hj
    rw [cell_of_heap hg]
    have hj' := (List.getElem?_eq_some_iff.1 hj).1
    have := (hs j hj').trans hj
    rw [← ht, List.getElem?_take] at this
    split at this
    · simpa using this
    · cases this

/-- A sector among the durable ones. -/
theorem dur_range {S : Nat → Prop} {w : World} {g cap : Nat} {l : List ByteArray} (h : Own S w 305 64 (.slice (some ⟨g, 0, none⟩) l.length cap) l.length (durCells l)) (hl : ∀ s ∈ l, s.size = 64) {i : Nat} {s : ByteArray} (hi : l[i]? = some s) : w.rangeAt g (i * 64) (bcells s) :=
  h.range (fun j hj => flat_get bcells 64 l i j s (fun y hy => by rw [bcells_length, hl y hy]) hi (by rw [bcells_length, hl s (List.mem_of_getElem? hi)] at hj; exact hj))
/-- The bytes of a write. -/
theorem put_range {S : Nat → Prop} {w : World} {g cap : Nat} {l : List (Nat × ByteArray)} (h : Own S w 307 65 (.slice (some ⟨g, 0, none⟩) l.length cap) l.length (putCells l)) (hl : ∀ x ∈ l, x.2.size = 64) {i : Nat} {x : Nat × ByteArray} (hi : l[i]? = some x) :
    w.cell? ⟨g, i * 65, none⟩ = some (.int .i64 (x.1 : Int)) ∧ w.rangeAt g (i * 65 + 1) (bcells x.2) ∧ w.rangeAt g (i * 65) (putCell x) := by
  have hx := hl x (List.mem_of_getElem? hi)
  have hr : w.rangeAt g (i * 65) (putCell x) := h.range (fun j hj => flat_get putCell 65 l i j x (fun y hy => putCell_length y (hl y hy)) hi (by rw [putCell_length x hx] at hj; exact hj))
  refine ⟨hr 0 _ rfl, ?_, hr⟩
  intro j v hj
  have := hr (j + 1) v (by simpa [putCell] using hj)
  rw [Nat.add_assoc, Nat.add_comm 1 j]
  exact this

/-- From the newest write to the oldest. -/
theorem lastPut_drop (l : List (Nat × ByteArray)) (i : Nat) (s : ByteArray) (k : Nat) (_hk : k < l.length) (hno : ∀ (j : Nat) (x : Nat × ByteArray), k < j → l[j]? = some x → x.1 ≠ i) (x : Nat × ByteArray) (hx : l[k]? = some x) (he : x.1 = i) : lastPut l i s = x.2 := by
  have h1 : l = l.take (k + 1) ++ l.drop (k + 1) := (List.take_append_drop _ _).symm
  have h2 : l.take (k + 1) = l.take k ++ [x] := by rw [List.take_add_one, hx]; rfl
  have h3 : ∀ (d : List (Nat × ByteArray)) (t : ByteArray), (∀ y ∈ d, y.1 ≠ i) → lastPut d i t = t := by
    intro d
    induction d with
    | nil => intro t _; rfl
    | cons y d ih => intro t h; show lastPut d i (if y.1 = i then y.2 else t) = t; rw [if_neg (h y (by simp)), ih t (fun z hz => h z (by simp [hz]))]
  have h4 : lastPut l i s = lastPut (l.drop (k + 1)) i (lastPut (l.take (k + 1)) i s) := by
    have h5 : lastPut (l.take (k + 1) ++ l.drop (k + 1)) i s = lastPut (l.drop (k + 1)) i (lastPut (l.take (k + 1)) i s) := List.foldl_append
    rw [← h1] at h5
    exact h5
  rw [h4, h3 _ _ (fun y hy => by
    obtain ⟨j, hj⟩ := List.getElem?_of_mem hy
    rw [List.getElem?_drop] at hj
    exact hno _ y (by omega) hj), h2, lastPut_snoc, if_pos he]
theorem lastPut_none (l : List (Nat × ByteArray)) (i : Nat) (s : ByteArray) (hno : ∀ (j : Nat) (x : Nat × ByteArray), l[j]? = some x → x.1 ≠ i) : lastPut l i s = s := by
  induction l generalizing s with
  | nil => rfl
  | cons y d ih =>
    show lastPut d i (if y.1 = i then y.2 else s) = s
    rw [if_neg (hno 0 y (by simp)), ih s (fun j x hj => hno (j + 1) x (by simpa using hj))]

/-- A new variable that is a sector; a store into it. -/
def secAlloc (h : Bool) (x : Value) : Sem Value := Instr.alloc 305 h x
theorem secAlloc_eq (h : Bool) (x : Value) : Instr.alloc 305 h x = secAlloc h x := rfl
theorem infoSec : (Tryz.prog.info? 305).map (fun i => (i.zero, i.size, i.bytes)) = some (some (.agg zrow), 64, 64) := infoSector
theorem run_secAlloc (W : World) : (secAlloc true (.tuple #[])).run Tryz.prog W = .ok (.pointer (some ⟨W.heap.size, 0, none⟩)) (W.alloc (.cells zrow 305)) := by
  obtain ⟨i0, hi, hz0, hz1, hz2⟩ := info_parts infoSec
  simp [secAlloc, Instr.alloc, zeroValue, typeInfo, hi, hz0, newVar, newRow, Value.cells]
def secStore (x v : Value) : Sem Unit := Instr.storeAt 305 x v
theorem secStore_eq (x v : Value) : Instr.storeAt 305 x v = secStore x v := rfl
theorem run_secStore (W : World) (c c' : Array Value) (hc : c.size = 64) (hc' : c'.size = 64) (h1 : c'.all (·.oneCell') = true) : (secStore (.pointer (some ⟨W.heap.size, 0, none⟩)) (.agg c')).run Tryz.prog (W.alloc (.cells c 305)) = .ok () (W.alloc (.cells c' 305)) :=
  run_storeAt_new W 305 c c' (by rw [hc']; exact sizeSector) (by omega) h1
attribute [local go_sem ↓] secLoad_eq secAlloc_eq secStore_eq
attribute [local go_sem] run_secAlloc
theorem zrow_size : zrow.size = 64 := by simp [zrow]
theorem bcells_all (s : ByteArray) : (bcells s).toArray.all (·.oneCell') = true := all_oneCell_toArray (bcells_one s)
theorem currentResults : Tryz.f255.results = #[.cell 4 305] := by kernel_rfl

theorem results_cell_one {fn : Func} {p : Tmp} {ty : TypeId} (h : fn.results = #[.cell p ty]) (tmps : Array Value) (P : Program) (w : World) :
    (results fn tmps).run P w = ((asAddr (tmps.getD p undef)).run P w).andThen fun a w₁ => (loadVar ty a).run P w₁ := by
  simp only [results, h]
  simp [Sem.run_bind, Result.andThen]

theorem current_ret (tmps : Array Value) (W : World) (c : Array Value) (hc : c.size = 64) (ht : tmps.getD 4 undef = .pointer (some ⟨W.heap.size, 0, none⟩)) :
    (results Tryz.f255 tmps).run Tryz.prog (W.alloc (.cells c 305)) = .ok (.agg c) (W.alloc (.cells c 305)) := by
  rw [results_cell_one currentResults, ht]
  simp only [asAddr, Sem.run_pure, Result.andThen_ok]
  exact run_loadVar_new W 305 c 64 _ Tryz.underlying305 (by rw [hc]; exact sizeSector)
theorem ret_agg {a b : Array Value} (h : a = b) : Ending.returned (.agg a) = .returned (.agg b) := by rw [h]

set_option maxRecDepth 100000 in
set_option maxHeartbeats 800000 in
theorem current_any (S : Nat → Prop) (p : Nat) (m : DM) (i : Nat) (w : World) (hD : PDisk S w p m) (hm : m.ok) (hi : i < m.dur.length) (hN : m.puts.length * 72 ≤ 140737488355328) :
    Calls Tryz.prog 255 #[.pointer (some ⟨p, 0, none⟩), .int .i64 i] w fun e w' => e = .returned (.agg (bcells (m.read i)).toArray) ∧ Keeps (fun _ => False) w w' := by
  obtain ⟨vd, vp, hb, hS, hd, hp⟩ := hD
  obtain ⟨g, cap, rfl, hcap, _, hgl, _, _⟩ := hd.open (by omega)
  have hc := cell_of_heap (o := 0) hb
  have hc1 := cell_of_heap (o := 1) hb
  simp at hc hc1
  have hn := hm.len.2
  have hpl := lt_of_heap hb
  have hp0 := hp
  obtain ⟨ap, cp, rfl, hcp⟩ := hp.len
  have hpc : ∀ (k : Nat) (x : Nat × ByteArray), m.puts[k]? = some x → ∃ gp, ap = some ⟨gp, 0, none⟩ ∧ gp < w.heap.size ∧ w.cell? ⟨gp, k * 65, none⟩ = some (.int .i64 (x.1 : Int)) ∧ w.rangeAt gp (k * 65 + 1) (bcells x.2) := by
    intro k x hk
    have hkl := (List.getElem?_eq_some_iff.1 hk).1
    obtain ⟨gp, cap', hv, _, _, hgpl, _, _⟩ := hp.open (by omega)
    cases hv
    obtain ⟨q1, q2, _⟩ := put_range hp (fun x hx => (hm.puts x hx).2) hk
    exact ⟨gp, rfl, hgpl, q1, q2⟩
  have hds : m.dur[i]? = some (m.dur.getD i ByteArray.empty) := by simp [List.getD, hi]
  have hdr := dur_range hd (fun s hs => hm.dur s hs) hds
  have hsz : (m.dur.getD i ByteArray.empty).size = 64 := hm.dur _ (List.mem_of_getElem? hds)
  have hps : ∀ (k : Nat) (x : Nat × ByteArray), m.puts[k]? = some x → x.2.size = 64 := fun k x hk => (hm.puts x (List.mem_of_getElem? hk)).2
  have HP := hide hps
  have HC := hide hpc
  have HD := hide hds
  have HM := hide hsz
  have HR : Hid (m.read i = lastPut m.puts i (m.dur.getD i ByteArray.empty)) := rfl
  clear hps hpc hds hsz hp hp0 hd hb hm HD
  generalize m.dur.getD i ByteArray.empty = s0 at *
  have hc' : (w.alloc (.cells zrow 305)).cell? ⟨p, 0, none⟩ = _ := (World.cell?_alloc_lt _ _ _ hpl).trans hc
  have hc1' : (w.alloc (.cells zrow 305)).cell? ⟨p, 1, none⟩ = _ := (World.cell?_alloc_lt _ _ _ hpl).trans hc1
  go_enter Tryz.func255, Tryz.ntmps255
  go_wp2
  go_loop [5] (fun k => ∃ j : Nat, j ≤ m.puts.length ∧ k = .int .i64 ((j : Int) - 1) ∧ ∀ (l : Nat) (x : Nat × ByteArray), j ≤ l → m.puts[l]? = some x → x.1 ≠ i) (fun k => (intOf k + 1).toNat)
  case atStart => exact ⟨m.puts.length, Nat.le_refl _, rfl, fun l x hl hx => absurd (List.getElem?_eq_some_iff.1 hx).1 (by omega)⟩
  case round =>
    obtain ⟨j, hj, rfl, hno⟩ := hrel
    have HN := hide hno
    clear hno
    by_cases hlt : 0 < j
    · obtain ⟨k, rfl⟩ : ∃ k, j = k + 1 := ⟨j - 1, by omega⟩
      obtain ⟨x, hx⟩ : ∃ x, m.puts[k]? = some x := ⟨_, List.getElem?_eq_getElem (by omega)⟩
      obtain ⟨gp, rfl, hgpl, k0, k1⟩ := unhide HC k x hx
      have HX := hide hx
      clear hx
      obtain ⟨x1, x2⟩ := x
      simp only at k0 k1
      have k0' : (w.alloc (.cells zrow 305)).cell? ⟨gp, k * 65, none⟩ = _ := (World.cell?_alloc_lt _ _ _ hgpl).trans k0
      have e1 : ((k + 1 : Nat) : Int) - 1 = (k : Int) := by omega
      rw [e1]
      clear e1
      by_cases he : x1 = i
      · have hb : ((x1 : Int) == (i : Int)) = true := by simp [he]
        have hs := unhide HP k _ (unhide HX)
        have hl : (bcells x2).length = 64 := by rw [bcells_length]; exact hs
        have hld := run_secLoad (w.alloc (.cells zrow 305)) gp (k * 65 + 1) (bcells x2) (World.rangeAt_alloc k1 _) hl
        have hst := run_secStore w zrow (bcells x2).toArray zrow_size (by simp [hl]) (bcells_all _)
        go_wp2
        refine bodyPost_ret (v := .agg (bcells x2).toArray) (current_ret _ w _ (by simp [hl]) rfl) rfl ⟨ret_agg ?_, (Keeps.refl _ _).alloc _⟩
        rw [unhide HR, lastPut_drop m.puts i s0 k (by omega) (fun l y hl hy => unhide HN l y (by omega) hy) (x1, x2) (unhide HX) he]
      · have hb : ((x1 : Int) == (i : Int)) = false := by simp; omega
        go_wp2
        go_round
        case rel =>
          refine ⟨k, by omega, by go_num, fun l y hl hy => ?_⟩
          by_cases e : l = k
          · subst e; rw [unhide HX] at hy; cases hy; exact he
          · exact unhide HN l y (by omega) hy
        case measure => simp [intOf]
    · have hj0 : j = 0 := by omega
      subst hj0
      have hl : (bcells s0).length = 64 := by rw [bcells_length]; exact unhide HM
      have hld := run_secLoad (w.alloc (.cells zrow 305)) g (i * 64) _ (World.rangeAt_alloc hdr _) hl
      have hst := run_secStore w zrow (bcells s0).toArray zrow_size (by simp [hl]) (bcells_all _)
      go_wp2
      refine bodyPost_ret (v := .agg (bcells s0).toArray) (current_ret _ w _ (by simp [hl]) rfl) rfl ⟨ret_agg ?_, (Keeps.refl _ _).alloc _⟩
      rw [unhide HR, lastPut_none m.puts i s0 (fun l y hy => unhide HN l y (Nat.zero_le _) hy)]

set_option maxRecDepth 100000 in
set_option maxHeartbeats 400000 in
theorem dRead_no (S : Nat → Prop) (p : Nat) (m : DM) (i : Int) (w : World) (hD : PDisk S w p m) (hm : m.ok) (h : i < 0 ∨ (m.dur.length : Int) ≤ i) :
    Calls Tryz.prog 184 #[.pointer (some ⟨p, 0, none⟩), .int .i64 i] w fun e w' => e = .returned (.tuple #[.slice none 0 0, .int .i64 1]) ∧ w' = w := by
  obtain ⟨vd, vp, hb, hS, hd, hp⟩ := hD
  obtain ⟨ad, cd, rfl, hcap⟩ := hd.len
  have hc := cell_of_heap (o := 0) hb
  simp at hc
  have hn := hm.len.2
  clear hd hp hm hb
  generalize m.dur.length = n at *
  go_enter Tryz.func184, Tryz.ntmps184
  go_wp2_with (go_at_call 254; refine (has_no p n cd ad i _ hc h (by omega)).mono ?_; rintro e w' ⟨rfl, rfl⟩)
  go_ret2
  exact ⟨rfl, rfl⟩

theorem lastPut_size (l : List (Nat × ByteArray)) (i : Nat) : ∀ s, s.size = 64 → (∀ x ∈ l, x.2.size = 64) → (lastPut l i s).size = 64 := by
  induction l with
  | nil => intro s h _; exact h
  | cons y d ih =>
    intro s hs hl
    show (lastPut d i (if y.1 = i then y.2 else s)).size = 64
    refine ih _ ?_ (fun x hx => hl x (by simp [hx]))
    split
    · exact hl y (by simp)
    · exact hs
theorem DM.read_size {m : DM} (hm : m.ok) {i : Nat} (hi : i < m.dur.length) : (m.read i).size = 64 := by
  refine lastPut_size _ _ _ ?_ (fun x hx => (hm.puts x hx).2)
  have hds : m.dur[i]? = some (m.dur.getD i ByteArray.empty) := by simp [List.getD, hi]
  exact hm.dur _ (List.mem_of_getElem? hds)

set_option maxRecDepth 100000 in
set_option maxHeartbeats 400000 in
theorem dRead_yes (S : Nat → Prop) (p : Nat) (m : DM) (i : Nat) (w : World) (hD : PDisk S w p m) (hm : m.ok) (hi : i < m.dur.length) (hN : m.puts.length * 72 ≤ 140737488355328) :
    Calls Tryz.prog 184 #[.pointer (some ⟨p, 0, none⟩), .int .i64 i] w fun e w' => ∃ g, e = .returned (.tuple #[.slice (some ⟨g, 0, none⟩) 64 64, .int .i64 0]) ∧ w.heap.size ≤ g ∧
      w'.heap[g]? = some (.cells (bcells (m.read i)).toArray 305 (0, 0)) ∧ Keeps (fun _ => False) w w' := by
  have hD0 := hD
  obtain ⟨vd, vp, hb, hS, hd, hp⟩ := hD
  obtain ⟨ad, cd, rfl, hcap⟩ := hd.len
  have hc := cell_of_heap (o := 0) hb
  simp at hc
  have hn := hm.len.2
  have hl : (bcells (m.read i)).length = 64 := by rw [bcells_length]; exact DM.read_size hm hi
  have HD := hide hD0
  clear hD0 hd hp hb
  have hst := fun W => run_secStore W zrow (bcells (m.read i)).toArray zrow_size (by simp [hl]) (bcells_all _)
  go_enter Tryz.func184, Tryz.ntmps184
  go_wp2_with (first | (go_at_call 254; refine (has_yes p m.dur.length cd ad i _ hc hi (by omega)).mono ?_; rintro e w' ⟨rfl, rfl⟩) | (go_at_call 255; refine (current_any S p m i _ (unhide HD) hm hi hN).mono ?_; rintro e w1 ⟨rfl, hk⟩))
  go_ret2
  exact ⟨w1.heap.size, rfl, hk.size, heap_alloc_last w1 _, hk.alloc _⟩

end Go.Proofs.YthbmmbgkchiajaaGreat

/- A store of many cells into an owned row; what the sectors hold behind it. -/
namespace Go.Proofs.YthbmmbgkchiajaaGreat
set_option linter.unusedSimpArgs false
set_option linter.unusedVariables false
open Go.RowKit

theorem heap_setCells {b : Nat} {e : TypeId} {fr : Nat × Nat} : ∀ (vs : List Value) (o : Nat) (w : World) (cur : Array Value), w.heap[b]? = some (.cells cur e fr) → o + vs.length ≤ cur.size →
    ∃ cur', (w.setCells b o vs).heap[b]? = some (.cells cur' e fr) ∧ cur'.size = cur.size ∧ ∀ i : Nat, cur'[i]? = if o ≤ i ∧ i < o + vs.length then vs[i - o]? else cur[i]?
  | [], o, w, cur, h, _ => ⟨cur, h, rfl, fun i => by rw [if_neg (by simp)]⟩
  | v :: r, o, w, cur, h, hl => by
    simp only [List.length_cons] at hl
    obtain ⟨cur', h1, h2, h3⟩ := heap_setCells r (o + 1) (w.setCell ⟨b, o, none⟩ v) (cur.setIfInBounds o v) (heap_setCell_same h v) (by simp; omega)
    refine ⟨cur', h1, by simpa using h2, fun i => ?_⟩
    rw [h3 i]
    by_cases h4 : o + 1 ≤ i ∧ i < o + 1 + r.length
    · rw [if_pos h4, if_pos (by simp; omega)]
      obtain ⟨d, hd⟩ : ∃ d, i - o = d + 1 := ⟨i - o - 1, by omega⟩
      rw [hd, List.getElem?_cons_succ]; congr 1; omega
    · rw [if_neg h4]
      by_cases h5 : i = o
      · subst h5
        rw [if_pos (by simp), Nat.sub_self, List.getElem?_cons_zero, Array.getElem?_setIfInBounds_self, if_pos (by omega)]
      · rw [if_neg (by simp; omega), Array.getElem?_setIfInBounds_ne (by omega)]

theorem keeps_setCells (b : Nat) : ∀ (vs : List Value) (o : Nat) (w : World), Keeps (fun k => k = b) w (w.setCells b o vs)
  | [], _, w => Keeps.refl _ w
  | v :: r, o, w => by
    have h1 : Keeps (fun k => k = b) w (w.setCell ⟨b, o, none⟩ v) := (Keeps.refl (fun k => k = b) w).setCell (p := ⟨b, o, none⟩) (.inl rfl) v
    exact h1.trans (keeps_setCells b r (o + 1) _) (fun _ _ h => h)

theorem Own.store {S : Nat → Prop} {w : World} {e size n cap g : Nat} {xs ys : List Value} (h : Own S w e size (.slice (some ⟨g, 0, none⟩) n cap) n xs) (o : Nat) (vs : List Value)
    (hy : ys.length = xs.length) (ho : o + vs.length ≤ xs.length) (hv : ∀ i : Nat, ys[i]? = if o ≤ i ∧ i < o + vs.length then vs[i - o]? else xs[i]?) : Own S (w.setCells g o vs) e size (.slice (some ⟨g, 0, none⟩) n cap) n ys := by
  obtain ⟨⟨hl, hr⟩, hS⟩ := h
  rcases hr with ⟨h0, _⟩ | ⟨g', cap', cur, h0, hb, hg, hc, hm, hsz, ht⟩
  · cases h0
  · cases h0
    have hxl : xs.length ≤ cur.size := by rw [← ht]; simp; omega
    obtain ⟨cur', h1, h2, h3⟩ := heap_setCells vs o w cur hg (by omega)
    refine ⟨⟨by omega, .inr ⟨g, cap, cur', rfl, hb, h1, hc, hm, by omega, ?_⟩⟩, hS⟩
    apply List.ext_getElem?
    intro i
    rw [hv i, List.getElem?_take, Array.getElem?_toList, h3 i]
    have hx : xs[i]? = if i < n * size then cur[i]? else none := by rw [← ht, List.getElem?_take, Array.getElem?_toList]
    rw [hx]
    by_cases h4 : o ≤ i ∧ i < o + vs.length
    · rw [if_pos h4, if_pos h4, if_pos (by omega)]
    · rw [if_neg h4, if_neg h4]

theorem durCells_set (l : List ByteArray) (i : Nat) (s : ByteArray) (hl : ∀ s ∈ l, s.size = 64) (hi : i < l.length) (hs : s.size = 64) :
    (durCells (l.set i s)).length = (durCells l).length ∧ i * 64 + (bcells s).length ≤ (durCells l).length ∧
    ∀ q : Nat, (durCells (l.set i s))[q]? = if i * 64 ≤ q ∧ q < i * 64 + (bcells s).length then (bcells s)[q - i * 64]? else (durCells l)[q]? := by
  have hl' : ∀ t ∈ l.set i s, (bcells t).length = 64 := by
    intro t ht
    rw [bcells_length]
    rcases List.mem_or_eq_of_mem_set ht with h | h
    · exact hl t h
    · rw [h]; exact hs
  have hl0 : ∀ t ∈ l, (bcells t).length = 64 := fun t ht => by rw [bcells_length]; exact hl t ht
  have e1 : (durCells (l.set i s)).length = l.length * 64 := by unfold durCells; rw [flat_len bcells 64 _ hl', List.length_set]
  have e2 : (durCells l).length = l.length * 64 := flat_len bcells 64 _ hl0
  have e3 : (bcells s).length = 64 := by rw [bcells_length, hs]
  refine ⟨by omega, by omega, fun q => ?_⟩
  by_cases hq : q < l.length * 64
  · obtain ⟨a, r, hr, rfl⟩ : ∃ a r, r < 64 ∧ q = a * 64 + r := ⟨q / 64, q % 64, Nat.mod_lt _ (by omega), by omega⟩
    have ha : a < l.length := by omega
    by_cases hai : a = i
    · subst hai
      rw [if_pos (by omega)]
      have := flat_get bcells 64 (l.set a s) a r s hl' (by simp [ha]) hr
      rw [show durCells (l.set a s) = (l.set a s).flatMap bcells from rfl, this]
      congr 1; omega
    · rw [if_neg (by omega)]
      have hg : (l.set i s)[a]? = some l[a] := by rw [List.getElem?_set_ne (by omega), List.getElem?_eq_getElem ha]
      have h1 := flat_get bcells 64 (l.set i s) a r l[a] hl' hg hr
      have h2 := flat_get bcells 64 l a r l[a] hl0 (List.getElem?_eq_getElem ha) hr
      exact h1.trans h2.symm
  · rw [if_neg (by omega), List.getElem?_eq_none (by omega), List.getElem?_eq_none (by omega)]

/-- The durable sectors behind the first k writes, of which those are kept that 'keep' says. -/
def durTo (l : List ByteArray) (ps : List (Nat × ByteArray)) (keep : Nat → Bool) : Nat → List ByteArray
  | 0 => l
  | k + 1 => match ps[k]? with
    | some x => if keep k then (durTo l ps keep k).set x.1 x.2 else durTo l ps keep k
    | none => durTo l ps keep k
theorem durTo_length (l : List ByteArray) (ps : List (Nat × ByteArray)) (keep : Nat → Bool) (k : Nat) : (durTo l ps keep k).length = l.length := by
  induction k with
  | zero => rfl
  | succ k ih => rw [durTo]; split <;> (try split) <;> simp [ih]
theorem durTo_size (l : List ByteArray) (ps : List (Nat × ByteArray)) (keep : Nat → Bool) (hl : ∀ s ∈ l, s.size = 64) (hp : ∀ x ∈ ps, x.2.size = 64) (k : Nat) : ∀ s ∈ durTo l ps keep k, s.size = 64 := by
  induction k with
  | zero => exact hl
  | succ k ih =>
    rw [durTo]
    split
    · rename_i x hx
      split
      · intro s hs
        rcases List.mem_or_eq_of_mem_set hs with h | h
        · exact ih s h
        · rw [h]; exact hp x (List.mem_of_getElem? hx)
      · exact ih
    · exact ih
theorem durTo_yes {l : List ByteArray} {ps : List (Nat × ByteArray)} {keep : Nat → Bool} {k : Nat} {x : Nat × ByteArray} (hx : ps[k]? = some x) (hk : keep k = true) : durTo l ps keep (k + 1) = (durTo l ps keep k).set x.1 x.2 := by rw [durTo, hx]; simp [hk]
theorem durTo_no {l : List ByteArray} {ps : List (Nat × ByteArray)} {keep : Nat → Bool} {k : Nat} {x : Nat × ByteArray} (hx : ps[k]? = some x) (hk : keep k = false) : durTo l ps keep (k + 1) = durTo l ps keep k := by rw [durTo, hx]; simp [hk]

end Go.Proofs.YthbmmbgkchiajaaGreat
