
/- Building a struct that holds a long array, and a slice of one such struct: laws at whatever cells. -/
import Derived.Test.YthbmmbgkchiajaaGreatModel
namespace Go.Proofs.YthbmmbgkchiajaaGreat
open Go.RowKit

theorem put_all (off : Nat) : ∀ (l : List Value) (k : Nat) (cells : Array Value) (i : Nat), off + k + l.length ≤ cells.size →
    ((l.zipIdx k).foldl (fun (cs : Array Value) (x : Value × Nat) => cs.setIfInBounds (off + x.2) x.1) cells)[i]? = if off + k ≤ i ∧ i < off + k + l.length then l[i - (off + k)]? else cells[i]?
  | [], k, cells, i, _ => by
    have : ¬ (off + k ≤ i ∧ i < off + k + ([] : List Value).length) := by simp
    rw [if_neg this]; rfl
  | x :: l, k, cells, i, h => by
    simp only [List.length_cons] at h
    rw [List.zipIdx_cons, List.foldl_cons, put_all off l (k + 1) _ i (by simp; omega)]
    by_cases h1 : off + (k + 1) ≤ i ∧ i < off + (k + 1) + l.length
    · rw [if_pos h1, if_pos (by simp; omega)]
      obtain ⟨d, hd⟩ : ∃ d, i - (off + k) = d + 1 := ⟨i - (off + k) - 1, by omega⟩
      rw [hd, List.getElem?_cons_succ]; congr 1; omega
    · rw [if_neg h1]
      by_cases h2 : i = off + k
      · subst h2
        rw [if_pos (by simp), Nat.sub_self, List.getElem?_cons_zero, Array.getElem?_setIfInBounds_self]
        rw [if_pos (by omega)]
      · rw [if_neg (by simp; omega), Array.getElem?_setIfInBounds_ne (by omega)]

theorem put_over (c cells : Array Value) (h : cells.size = c.size) : (c.zipIdx.foldl (fun (cs : Array Value) (x : Value × Nat) => cs.setIfInBounds (0 + x.2) x.1) cells) = c := by
  apply Array.ext_getElem?
  intro i
  rw [← Array.foldl_toList, Array.toList_zipIdx, put_all 0 c.toList 0 cells i (by simp; omega)]
  by_cases hi : i < c.size
  · rw [if_pos (by simp; omega)]; simp
  · rw [if_neg (by simp; omega)]
    rw [Array.getElem?_eq_none (by omega), Array.getElem?_eq_none (by omega)]

/-- A slice of one element: a new block of its cells. -/
theorem run_buildSlice_one {P : Program} (W : World) (t e : TypeId) (i : TypeInfo) (z v : Value) (sz : Nat) (ht : P.underlying t = some (.slice e)) (hi : P.info? e = some i) (hz : i.zero = some z) (hsz : i.size = sz)
    (hzs : z.cells.size = sz) (h0 : 0 < sz) (h1 : sz ≤ 16777216) (hv : v.cells.size = sz) :
    (Instr.buildSlice t 1 #[(0, v)]).run P W = .ok (.slice (some ⟨W.heap.size, 0, none⟩) 1 1) (W.alloc (.cells v.cells e)) := by
  have hm : ((Array.range (1 * sz)).map (z.cells[· % z.cells.size]!)).size = v.cells.size := by simp [hv]
  have hn : ¬ (1 * sz > 2 ^ 24) := by omega
  have hn' : ¬ (1 * sz = 0) := by omega
  have hf : Instr.fill (fun i => some (i * sz, sz)) ((Array.range (1 * sz)).map (z.cells[· % z.cells.size]!)) [(0, v)] = some v.cells := by
    have := put_over v.cells _ hm
    unfold Instr.fill
    simp only [Nat.zero_mul]
    rw [if_neg (by rw [hm]; simp [hv])]
    unfold Instr.fill
    rw [this]
  simp only [Nat.one_mul] at hf hn hn'
  have hn2 : ¬ (16777216 < sz) := by omega
  simp [Instr.buildSlice, run_underlying ht, typeInfo, hi, sizeOf, zeroValue, hz, hsz, hn2, hn', newRow, hf]

theorem run_buildSlice_cells {P : Program} (W : World) (t e : TypeId) (i : TypeInfo) (z v : Value) (cs : Array Value) (sz : Nat) (ht : P.underlying t = some (.slice e)) (hi : P.info? e = some i) (hz : i.zero = some z) (hsz : i.size = sz)
    (hzs : z.cells.size = sz) (h0 : 0 < sz) (h1 : sz ≤ 16777216) (hc : v.cells = cs) (hv : cs.size = sz) :
    (Instr.buildSlice t 1 #[(0, v)]).run P W = .ok (.slice (some ⟨W.heap.size, 0, none⟩) 1 1) (W.alloc (.cells cs e)) := by
  subst hc
  exact run_buildSlice_one W t e i z v sz ht hi hz hsz hzs h0 h1 hv

theorem fill_cons (place : Nat → Option (Nat × Nat)) (cells : Array Value) (i off size : Nat) (v : Value) (rest : List (Nat × Value)) (hp : place i = some (off, size)) (hv : v.cells.size = size) (hf : off + size ≤ cells.size) :
    Instr.fill place cells ((i, v) :: rest) = Instr.fill place (v.cells.zipIdx.foldl (fun cs (c, j) => cs.setIfInBounds (off + j) c) cells) rest := by
  have h1 : ¬ (cells.size < off + size) := by omega
  simp [Instr.fill, hp, hv, h1]

theorem fill_pair (z : Array Value) (x : Value) (cs : List Value) (hx : x.cells = #[x]) (hz : z.size = cs.length + 1) :
    Instr.fill (#[(0, 1), (1, cs.length)][·]?) z [(0, x), (1, .agg cs.toArray)] = some (x :: cs).toArray := by
  have hs : (x.cells.zipIdx.foldl (fun (cs : Array Value) (y : Value × Nat) => cs.setIfInBounds (0 + y.2) y.1) z) = z.setIfInBounds 0 x := by rw [hx]; rfl
  rw [fill_cons _ _ 0 0 1 x _ rfl (by rw [hx]; rfl) (by omega)]
  rw [hs, fill_cons _ _ 1 1 cs.length (.agg cs.toArray) _ rfl (by simp [Value.cells]) (by simp [hz]; omega)]
  simp only [Value.cells, Instr.fill]
  congr 1
  apply Array.ext_getElem?
  intro i
  rw [← Array.foldl_toList, Array.toList_zipIdx, put_all 1 cs 0 _ i (by simp [hz]; omega)]
  by_cases h : 1 + 0 ≤ i ∧ i < 1 + 0 + cs.length
  · rw [if_pos h]
    obtain ⟨d, rfl⟩ : ∃ d, i = d + 1 := ⟨i - 1, by omega⟩
    simp
  · rw [if_neg h]
    by_cases h0 : i = 0
    · subst h0; simp [hz]
    · rw [Array.getElem?_eq_none (by simp [hz]; omega), Array.getElem?_eq_none (by simp; omega)]

theorem run_arrayAt (W : World) (a : Addr) (cap : Nat) : (Instr.arrayAt 305 (.slice (some a) 64 cap)).run Tryz.prog W = .ok (.pointer (some a)) W := by
  simp [Instr.arrayAt, run_underlying Tryz.underlying305]

theorem sizeSector' : (Tryz.prog.info? 305).map (·.size) = some 64 := by kernel_rfl
/-- The load of a sector, under a name of its own. -/
def secLoad (x : Value) : Sem Value := Instr.loadAt 305 x
theorem secLoad_eq (x : Value) : Instr.loadAt 305 x = secLoad x := rfl
theorem run_secLoad (W : World) (b o : Nat) (cs : List Value) (hr : W.rangeAt b o cs) (hl : cs.length = 64) : (secLoad (.pointer (some ⟨b, o, none⟩))).run Tryz.prog W = .ok (.agg cs.toArray) W :=
  run_loadAt_mid W b o 305 cs _ hr Tryz.underlying305 rfl (by rw [hl]; exact sizeSector')

theorem infoWrite : (Tryz.prog.info? 307).map (fun i => (i.zero, i.size, i.bytes)) = some (some (.agg (Array.replicate 1 (.int .i64 0) ++ Array.replicate 64 (.int .u8 0))), 65, 72) := by kernel_rfl
theorem sizeInt : (Tryz.prog.info? 3).map (·.size) = some 1 := by kernel_rfl
theorem sizeSector : (Tryz.prog.info? 305).map (·.size) = some 64 := by kernel_rfl

theorem run_sizeOf {P : Program} (W : World) {t n : Nat} (h : (P.info? t).map (·.size) = some n) : (sizeOf t).run P W = .ok n W := by
  cases hq : P.info? t with
  | none => simp [hq] at h
  | some i =>
    have : i.size = n := by simpa [hq] using h
    simp [sizeOf, typeInfo, hq, this]

def wcells (i : Int) (cs : List Value) : Array Value := (Value.int .i64 i :: cs).toArray
theorem wcells_size (i : Int) (cs : List Value) : (wcells i cs).size = cs.length + 1 := by simp [wcells]
/-- A write: its place, its bytes. -/
theorem run_build_write (W : World) (i : Int) (cs : List Value) (hc : cs.length = 64) :
    (Instr.build 307 #[(0, .int .i64 i), (1, .agg cs.toArray)]).run Tryz.prog W = .ok (.agg (wcells i cs)) W := by
  obtain ⟨i0, hi, hz0, hz1, hz2⟩ := info_parts infoWrite
  have hf := fill_pair (Array.replicate 1 (.int .i64 0) ++ Array.replicate 64 (.int .u8 0)) (.int .i64 i) cs rfl (by simp [hc])
  rw [hc] at hf
  have hz : (zeroValue 307).run Tryz.prog W = .ok (.agg (Array.replicate 1 (.int .i64 0) ++ Array.replicate 64 (.int .u8 0))) W := by
    simp [zeroValue, typeInfo, hi, hz0]
  unfold Instr.build
  simp only [Sem.run_bind, hz, Result.andThen_ok, run_underlying Tryz.underlying307, Value.cells]
  simp [run_sizeOf _ sizeInt, run_sizeOf _ sizeSector]
  have hf2 := hf
  simp only [Array.replicate_one, List.getElem?_toArray] at hf2
  rw [hf2]
  rfl

end Go.Proofs.YthbmmbgkchiajaaGreat
