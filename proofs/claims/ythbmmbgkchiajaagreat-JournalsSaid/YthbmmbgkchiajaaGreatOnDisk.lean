
/- A step on a disk, whichever. -/
import Derived.Test.YthbmmbgkchiajaaGreatInvStep
namespace Go.Proofs.YthbmmbgkchiajaaGreat
open Go.RowKit

/-- All holds, and v is the i-th volume. -/
def InvV (B : Nat) (o : Nat → Nat) (w : World) (pw : Nat) (vcs : Value) (N i v : Nat) : Prop :=
  ∃ (vvs vb : Value) (vs : List Nat) (ms : List DM) (ls : List Value) (og : Nat → Nat),
    w.heap[pw]? = some (.cells #[vcs, vvs, .slice none 0 0, vb, .slice none 0 0, .slice none 0 0, .slice none 0 0] 79 (0, 0)) ∧ o pw = 1 ∧
    Own (fun k => o k = 2) w 131 1 vvs vs.length (ptrs vs) ∧
    Own (fun k => o k = 3) w 138 1 vb ls.length ls ∧ BookC (fun k => o k = 4) og (fun _ _ => True) w ls ∧ ls.length % 4 = 0 ∧
    ms.length = vs.length ∧ (∀ (i v : Nat) (m : DM), vs[i]? = some v → ms[i]? = some m → Vol o (5 + 3 * i) w v m) ∧
    vs.length ≤ N ∧ ls.length ≤ 4 * N ∧ (∀ m ∈ ms, m.puts.length ≤ N ∧ m.syncs ≤ N) ∧ (∀ k, k < B → o k = 0) ∧ B ≤ w.heap.size ∧ vs[i]? = some v

theorem InvV.same {B : Nat} {o : Nat → Nat} {w w' : World} {pw : Nat} {vcs : Value} {N i v : Nat} (h : InvV B o w pw vcs N i v) (hk : Keeps (fun _ => False) w w') : InvV B o w' pw vcs N i v := by
  obtain ⟨vvs, vb, vs, ms, ls, og, h1, h2, h3, h4, h5, h6, h7, h8, h9, h10, h11, h12, h13, h14⟩ := h
  exact ⟨vvs, vb, vs, ms, ls, og, hk.heap h1 (fun f => f), h2, h3.tag hk (fun _ _ _ f => f) (fun _ _ => rfl), h4.tag hk (fun _ _ _ f => f) (fun _ _ => rfl), h5.tag hk (fun _ _ _ f => f) (fun _ _ => rfl), h6, h7, fun i v m hv hm => (h8 i v m hv hm).tag hk (fun _ _ _ f => f) (fun _ _ => rfl), h9, h10, h11, h12, Nat.le_trans h13 hk.size, h14⟩

theorem Done.back {B : Nat} {o : Nat → Nat} {W W1 : World} {pw : Nat} {vcs : Value} {N : Nat} {w' : World} (h : Done B o W1 pw vcs N w') (hk : Keeps (fun _ => False) W W1) (hp : pw < W.heap.size) : Done B o W pw vcs N w' :=
  ⟨h.1, (hk.mono (T := fun k => o k ≠ 0 ∧ o k ≠ 2) (fun _ _ f => f.elim)).trans h.2.1 (fun _ _ q => q), h.2.2.trans (hk.cell (p := ⟨pw, 1, none⟩) hp (fun f => f))⟩

theorem few_puts (N n : Nat) (h : Few N) (hn : n ≤ N) : (n + 1) * 72 ≤ 140737488355328 ∧ n * 72 ≤ 140737488355328 := by
  have h1 := few_mul N 72 h (by omega)
  have h2 : n * 72 ≤ N * 72 := Nat.mul_le_mul_right 72 hn
  have h3 : (n + 1) * 72 = n * 72 + 72 := by rw [Nat.add_mul]
  rw [h3]
  omega
theorem few_lists (N n : Nat) (h : Few N) (hn : n ≤ 4 * N) : (n + 4) * 24 ≤ 140737488355328 := by
  have h2 : (n + 4) * 24 ≤ (4 * N + 4) * 24 := Nat.mul_le_mul_right 24 (by omega)
  have h3 : (4 * N + 4) * 24 = N * 96 + 96 := by omega
  unfold Few at h
  omega
theorem few_N (N : Nat) (h : Few N) : N ≤ 140737488351232 := Nat.le_trans (Nat.le_mul_of_pos_right N (by omega)) h

/-- What an operation of the script is: numbers of the kind int, a text, answers. -/
structure OpOk (B : Nat) (w : World) (b c : Int) (s : ByteArray) (vk : Value) (bs : List Bool) : Prop where
  b0 : -9223372036854775808 ≤ b
  b1 : b ≤ 9223372036854775807
  c0 : -9223372036854775808 ≤ c
  c1 : c ≤ 9223372036854775807
  s : s.size ≤ 140737488351232
  bl : bs.length ≤ 140737488351232
  k : KeepArg B w vk bs

theorem plain_any {B : Nat} {o : Nat → Nat} {W : World} {pw : Nat} {vcs : Value} {N i v : Nat} (hI : InvV B o W pw vcs N i v) (hF : Few N) (k a b c : Int) (s : ByteArray) (vk vp : Value) (bs : List Bool) (hO : OpOk B W b c s vk bs) (hk : k = 2 ∨ k = 3 ∨ k = 4 ∨ k = 5) :
    Calls Tryz.prog 125 #[.pointer (some ⟨pw, 0, none⟩), .pointer (some ⟨v, 0, none⟩), opv k a b c s vk vp] W fun e w' => e = .returned (.bool true) ∧ Done B o W pw vcs N w' := by
  obtain ⟨vvs, vb, vs, ms, ls, og, h1, h2, h3, h4, h5, h6, h7, h8, h9, h10, h11, h12, h13, h14⟩ := hI
  have hil : i < ms.length := by rw [h7]; exact (List.getElem?_eq_some_iff.1 h14).1
  obtain ⟨m, hm⟩ : ∃ m, ms[i]? = some m := ⟨_, List.getElem?_eq_getElem hil⟩
  have hV := h8 i v m h14 hm
  have hmN := h11 m (List.mem_of_getElem? hm)
  obtain ⟨p1, p2⟩ := few_puts N _ hF hmN.1
  have hl := few_lists N _ hF h10
  have hN := few_N N hF
  rcases hk with rfl | rfl | rfl | rfl
  · by_cases hb : b < 0 ∨ (m.dur.length : Int) ≤ b ∨ (sectorOf c s).size ≠ 64
    · exact (plain_write_no o (5 + 3 * i) pw v m a b c s vk vp W hV hO.s hO.c0 hO.c1 hb).mono fun e w' ⟨e1, e2⟩ => ⟨e1, inv_vstep h1 h2 h3 h4 h5 h6 h7 h8 h9 h10 h11 h12 h13 h14 hm (by omega) (by omega) e2⟩
    · obtain ⟨j, rfl⟩ := Int.eq_ofNat_of_zero_le (a := b) (by omega)
      exact (plain_write_ok o (5 + 3 * i) pw v m a c j s vk vp W hV p1 hO.s hO.c0 hO.c1 (by omega) (by omega)).mono fun e w' ⟨e1, e2⟩ => ⟨e1, inv_vstep h1 h2 h3 h4 h5 h6 h7 h8 h9 h10 h11 h12 h13 h14 hm (by simp [DM.put]; omega) (by simp only [DM.put]; omega) e2⟩
  · by_cases hb : b < 0 ∨ (m.dur.length : Int) ≤ b
    · exact (plain_read_no o (5 + 3 * i) pw v m a b c s vk vp _ _ _ _ _ _ _ ls W hV hb h1 h2 h4 hl).mono fun e w' ⟨e1, e2⟩ => ⟨e1, inv_read h1 h2 h3 h5 h6 h7 h8 h9 h10 h11 h12 h13 e2⟩
    · obtain ⟨j, rfl⟩ := Int.eq_ofNat_of_zero_le (a := b) (by omega)
      exact (plain_read_ok o (5 + 3 * i) pw v m a c j s vk vp _ _ _ _ _ _ _ ls W hV p2 (by omega) h1 h2 h4 hl).mono fun e w' ⟨e1, e2⟩ => ⟨e1, inv_read h1 h2 h3 h5 h6 h7 h8 h9 h10 h11 h12 h13 e2⟩
  · exact (plain_sync o (5 + 3 * i) pw v m a b c s vk vp W hV p2 (by omega)).mono fun e w' ⟨e1, e2⟩ => ⟨e1, inv_vstep h1 h2 h3 h4 h5 h6 h7 h8 h9 h10 h11 h12 h13 h14 hm (by simp) (by simp; omega) e2⟩
  · exact (plain_pending o (5 + 3 * i) pw v m a b c s vk vp W hV (by omega)).mono fun e w' ⟨e1, e2⟩ => ⟨e1, inv_vstep h1 h2 h3 h4 h5 h6 h7 h8 h9 h10 h11 h12 h13 h14 hm (by omega) (by omega) e2⟩

theorem crashed_any {B : Nat} {o : Nat → Nat} {W : World} {pw : Nat} {vcs : Value} {N i v : Nat} (hI : InvV B o W pw vcs N i v) (hF : Few N) (a b c : Int) (s : ByteArray) (vk vp : Value) (bs : List Bool) (hO : OpOk B W b c s vk bs) :
    Calls Tryz.prog 121 #[.pointer (some ⟨v, 0, none⟩), opv 6 a b c s vk vp] W fun e w' => e = .returned (.bool true) ∧ Done B o W pw vcs N w' := by
  obtain ⟨vvs, vb, vs, ms, ls, og, h1, h2, h3, h4, h5, h6, h7, h8, h9, h10, h11, h12, h13, h14⟩ := hI
  have hil : i < ms.length := by rw [h7]; exact (List.getElem?_eq_some_iff.1 h14).1
  obtain ⟨m, hm⟩ : ∃ m, ms[i]? = some m := ⟨_, List.getElem?_eq_getElem hil⟩
  have hV := h8 i v m h14 hm
  have hmN := h11 m (List.mem_of_getElem? hm)
  obtain ⟨p1, p2⟩ := few_puts N _ hF hmN.1
  rcases hO.k with ⟨rfl, rfl⟩ | ⟨ak, cap, rfl, hcap, hr⟩
  · exact (crashed_nil o (5 + 3 * i) v m a b c s vp W hV p2).mono fun e w' ⟨e1, e2⟩ => ⟨e1, inv_vstep h1 h2 h3 h4 h5 h6 h7 h8 h9 h10 h11 h12 h13 h14 hm (by simp [DM.crash]) (by simp only [DM.crash]; omega) e2⟩
  · exact (crashed_some B o (5 + 3 * i) v m a b c s ak cap bs vp W hV p2 h12 h13 (by omega) hO.bl hcap hr).mono fun e w' ⟨e1, e2⟩ => ⟨e1, inv_vstep h1 h2 h3 h4 h5 h6 h7 h8 h9 h10 h11 h12 h13 h14 hm (by simp [DM.crash]) (by simp only [DM.crash]; omega) e2⟩

theorem OpOk.same {B : Nat} {w w' : World} {b c : Int} {s : ByteArray} {vk : Value} {bs : List Bool} (h : OpOk B w b c s vk bs) {T : Nat → Prop} (hk : Keeps T w w') (hT : ∀ k, k < B → ¬ T k) (hB : B ≤ w.heap.size) : OpOk B w' b c s vk bs := by
  refine ⟨h.b0, h.b1, h.c0, h.c1, h.s, h.bl, ?_⟩
  rcases h.k with h' | ⟨a, cap, e1, e2, e3⟩
  · exact .inl h'
  · refine .inr ⟨a, cap, e1, e2, fun j hj => ?_⟩
    obtain ⟨b', o', f1, f2, f3⟩ := e3 j hj
    exact ⟨b', o', f1, f2, (hk.cell (p := ⟨b', o' + j, none⟩) (by show b' < _; omega) (hT b' f2)).trans f3⟩

set_option maxRecDepth 100000 in
set_option maxHeartbeats 800000 in
theorem onDisk_any {B : Nat} {o : Nat → Nat} {W : World} {pw : Nat} {vcs : Value} {N i v : Nat} (hI : InvV B o W pw vcs N i v) (hF : Few N) (k a b c : Int) (s : ByteArray) (vk vp : Value) (bs : List Bool) (hO : OpOk B W b c s vk bs) (hk : k = 2 ∨ k = 3 ∨ k = 4 ∨ k = 5 ∨ k = 6) :
    Calls Tryz.prog 74 #[.pointer (some ⟨pw, 0, none⟩), .pointer (some ⟨v, 0, none⟩), opv k a b c s vk vp] W fun e w' => e = .returned (.bool true) ∧ Done B o W pw vcs N w' := by
  have hK : Keeps (fun _ => False) W (W.alloc (.cells #[.int .i64 k, .int .i64 a, .int .i64 b, .int .i64 c, .string s, vk, vp] 81)) := (Keeps.refl _ _).alloc _
  obtain ⟨vvs, vb, vs, ms, ls, og, h1, h2, h3, h4, h5, h6, h7, h8, h9, h10, h11, h12, h13, h14⟩ := id hI
  have hil : i < ms.length := by rw [h7]; exact (List.getElem?_eq_some_iff.1 h14).1
  obtain ⟨m, hm⟩ : ∃ m, ms[i]? = some m := ⟨_, List.getElem?_eq_getElem hil⟩
  obtain ⟨d, r, dirty, hv, hrest⟩ := h8 i v m h14 hm
  clear hrest
  have hpw := lt_of_heap h1
  have hvl := lt_of_heap hv
  have cv4 := cell_of_heap (o := 4) hv
  simp at cv4
  have HI := hide (hI.same hK)
  have HO := hide (hO.same hK (fun _ _ f => f) h13)
  clear hI hO h1 h2 h3 h4 h5 h6 h7 h8 h9 h10 h11 h12 h13 h14 hil hm hv
  have HF := hide hF
  clear hF
  by_cases h6 : k = 6
  · subst h6
    go_enter Tryz.func74, Tryz.ntmps74
    go_wp2_with (go_at_call 121; refine (crashed_any (unhide HI) (unhide HF) a b c s vk vp bs (unhide HO)).mono ?_; rintro e w' ⟨rfl, hD⟩)
    go_ret
    exact ⟨rfl, hD.back hK hpw⟩
  · have hk' : k = 2 ∨ k = 3 ∨ k = 4 ∨ k = 5 := by omega
    have b6 : (k == 6) = false := by simp; omega
    have b7 : (k == 7) = false := by simp; omega
    have b8 : (k == 8) = false := by simp; omega
    have b14 : (k == 14) = false := by simp; omega
    have b5 : decide (k ≤ 5) = true := by simp; omega
    have HK := hide hk'
    clear hk hk' h6
    go_enter Tryz.func74, Tryz.ntmps74
    go_wp2_with (go_at_call 125; refine (plain_any (unhide HI) (unhide HF) k a b c s vk vp bs (unhide HO) (unhide HK)).mono ?_; rintro e w' ⟨rfl, hD⟩)
    go_ret
    exact ⟨rfl, hD.back hK hpw⟩

end Go.Proofs.YthbmmbgkchiajaaGreat
