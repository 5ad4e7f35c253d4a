
/- One step. -/
import Derived.Test.YthbmmbgkchiajaaGreatOnDisk
namespace Go.Proofs.YthbmmbgkchiajaaGreat
open Go.RowKit

theorem Inv.norm {B : Nat} {o : Nat → Nat} {w : World} {pw : Nat} {vcs : Value} {N : Nat} (h : Inv B o w pw vcs N) : Inv B (fun k => if k < w.heap.size then o k else 0) w pw vcs N := by
  obtain ⟨vvs, vb, vs, ms, ls, og, h1, h2, h3, h4, h5, h6, h7, h8, h9, h10, h11, h12, h13⟩ := h
  have ho : ∀ k, k < w.heap.size → (fun k => if k < w.heap.size then o k else 0) k = o k := fun k hk => if_pos hk
  have hk := Keeps.refl (fun _ => False) w
  exact ⟨vvs, vb, vs, ms, ls, og, h1, (ho pw (lt_of_heap h1)).trans h2, h3.tag hk (fun _ _ _ f => f) ho, h4.tag hk (fun _ _ _ f => f) ho, h5.tag hk (fun _ _ _ f => f) ho, h6, h7, fun i v m hv hm => (h8 i v m hv hm).tag hk (fun _ _ _ f => f) ho, h9, h10, h11, fun k hkB => (ho k (by omega)).trans (h12 k hkB), h13⟩

/-- What the statement of a step reads: the row of volumes, the operation's own cells, the volume. -/
def StepS (pw ob gv nv cv pk v : Nat) (k a b c : Int) (s : ByteArray) (vk vp : Value) (w : World) : Prop :=
  w.cell? ⟨pw, 1, none⟩ = some (.slice (some ⟨gv, 0, none⟩) nv cv) ∧ w.cell? ⟨ob, 0, none⟩ = some (.int .i64 k) ∧ w.cell? ⟨ob, 1, none⟩ = some (.int .i64 a) ∧ w.cell? ⟨ob, 2, none⟩ = some (.int .i64 b) ∧ w.cell? ⟨ob, 3, none⟩ = some (.int .i64 c) ∧
    w.cell? ⟨ob, 4, none⟩ = some (.string s) ∧ w.cell? ⟨ob, 5, none⟩ = some vk ∧ w.cell? ⟨ob, 6, none⟩ = some vp ∧ w.cell? ⟨gv, pk, none⟩ = some (.pointer (some ⟨v, 0, none⟩))

theorem StepS.done {B pw ob gv nv cv pk v N : Nat} {k a b c : Int} {s : ByteArray} {vk vp vcs : Value} {o : Nat → Nat} {W w' : World} (h : StepS pw ob gv nv cv pk v k a b c s vk vp W) (hD : Done B o W pw vcs N w') (ho : o ob = 0) (hg : o gv = 2) : StepS pw ob gv nv cv pk v k a b c s vk vp w' := by
  obtain ⟨h1, h2, h3, h4, h5, h6, h7, h8, h9⟩ := h
  have hk := hD.2.1
  have l1 := World.block_lt_of_cell? W _ h2
  have l2 := World.block_lt_of_cell? W _ h9
  have f : ∀ j : Nat, w'.cell? ⟨ob, j, none⟩ = W.cell? ⟨ob, j, none⟩ := fun j => hk.cell (p := ⟨ob, j, none⟩) l1 (fun h => h.1 ho)
  exact ⟨hD.2.2.trans h1, (f 0).trans h2, (f 1).trans h3, (f 2).trans h4, (f 3).trans h5, (f 4).trans h6, (f 5).trans h7, (f 6).trans h8, (hk.cell (p := ⟨gv, pk, none⟩) l2 (fun h => h.2 hg)).trans h9⟩

set_option maxRecDepth 100000 in
set_option maxHeartbeats 800000 in
theorem step_made {B : Nat} {o : Nat → Nat} {w : World} {pw : Nat} {vcs : Value} {N : Nat} (hI : Inv B o w pw vcs N) (hF : Few N) (a b c : Int) (s : ByteArray) (vk vp : Value) :
    Calls Tryz.prog 39 #[.pointer (some ⟨pw, 0, none⟩), opv 1 a b c s vk vp] w fun e w' => e = .returned (.bool true) ∧ (∃ o', Inv B o' w' pw vcs (N + 1)) ∧ Keeps (fun k => B ≤ k) w w' := by
  have hK : Keeps (fun _ => False) w (w.alloc (.cells #[.int .i64 1, .int .i64 a, .int .i64 b, .int .i64 c, .string s, vk, vp] 81)) := (Keeps.refl _ _).alloc _
  have HI := hide (hI.same hK (fun _ _ _ f => f))
  have HF := hide hF
  clear hI hF
  by_cases h : a < 1 ∨ 128 < a
  · have H := hide h
    clear h
    go_enter Tryz.func39, Tryz.ntmps39
    go_wp2_with (go_at_call 73; refine (made_no pw a _ (unhide H)).mono ?_; rintro e w' ⟨rfl, rfl⟩)
    go_ret
    exact ⟨rfl, ⟨o, (unhide HI).more⟩, hK.mono (fun _ _ f => f.elim)⟩
  · obtain ⟨n, rfl⟩ := Int.eq_ofNat_of_zero_le (a := a) (by omega)
    have hn0 : 1 ≤ n := by omega
    have hn1 : n ≤ 128 := by omega
    clear h
    go_enter Tryz.func39, Tryz.ntmps39
    go_wp2_with (go_at_call 73; refine (made_yes B o pw vcs N n _ (unhide HI) (unhide HF) hn0 hn1).mono ?_; rintro e w' ⟨rfl, hD, hk⟩)
    go_ret
    exact ⟨rfl, hD, (hK.mono (T := fun k => B ≤ k) (fun _ _ f => f.elim)).trans hk (fun _ _ q => q)⟩

set_option maxRecDepth 100000 in
set_option maxHeartbeats 1600000 in
theorem step_disk {B : Nat} {o0 : Nat → Nat} {w : World} {pw : Nat} {vcs : Value} {N : Nat} (hI0 : Inv B o0 w pw vcs N) (hF : Few N) (k a b c : Int) (s : ByteArray) (vk vp : Value) (bs : List Bool) (hO : OpOk B w b c s vk bs) (hk : k = 2 ∨ k = 3 ∨ k = 4 ∨ k = 5 ∨ k = 6)
    (ha0 : -9223372036854775808 ≤ a) (ha1 : a ≤ 9223372036854775807) :
    Calls Tryz.prog 39 #[.pointer (some ⟨pw, 0, none⟩), opv k a b c s vk vp] w fun e w' => e = .returned (.bool true) ∧ (∃ o', Inv B o' w' pw vcs (N + 1)) ∧ Keeps (fun k => B ≤ k) w w' := by
  have hI := hI0.norm
  have hoz : ∀ k, w.heap.size ≤ k → (fun k => if k < w.heap.size then o0 k else 0) k = 0 := fun k hk => if_neg (by omega)
  generalize (fun k => if k < w.heap.size then o0 k else 0) = o at *
  clear hI0
  have hK : Keeps (fun _ => False) w (w.alloc (.cells #[.int .i64 k, .int .i64 a, .int .i64 b, .int .i64 c, .string s, vk, vp] 81)) := (Keeps.refl _ _).alloc _
  have hob := heap_alloc_last w (.cells #[.int .i64 k, .int .i64 a, .int .i64 b, .int .i64 c, .string s, vk, vp] 81)
  have HMORE := hide (hI.same hK (fun _ _ _ f => f)).more
  obtain ⟨vvs, vb, vs, ms, ls, og, h1, h2, h3, h4, h5, h6, h7, h8, h9, h10, h11, h12, h13⟩ := hI
  have b1 : (k == 1) = false := by simp; omega
  have b2 : decide (1 < k) = true := by simp; omega
  have b3 : decide (k ≤ 14) = true := by simp; omega
  have hpl := lt_of_heap h1
  have hNl := few_N N hF
  have HO := hide (hO.same hK (fun _ _ f => f) h13)
  have HF := hide hF
  have HKK := hide hk
  have HB := hide h12
  have HZ := hide hoz
  have hoz' := hoz w.heap.size (Nat.le_refl _)
  clear hO hF hk hoz
  have c1 := cell_of_heap (o := 1) h1
  simp at c1
  by_cases hnv : vs.length = 0
  · obtain ⟨av, cv, hvv, _⟩ := h3.len
    have HNV := hide hnv
    rw [hvv, hnv] at c1
    have HP := hide h1
    clear h1 h2 h3 h4 h5 h6 h7 h8 h9 h10 h11 h12 h13 hob hnv hvv
    go_enter Tryz.func39, Tryz.ntmps39
    go_wp2
    go_ret
    exact ⟨rfl, ⟨o, unhide HMORE⟩, hK.mono (fun _ _ f => f.elim)⟩
  · obtain ⟨gv, cv, hvv, hcv, hgo, hgl, hrow, _⟩ := h3.open (by omega)
    have hpk := pickOf_lt a vs.length (by omega)
    generalize hpke : pickOf a vs.length = pk at *
    have HPK := hide hpke
    obtain ⟨v, hv⟩ : ∃ v, vs[pk]? = some v := ⟨_, List.getElem?_eq_getElem hpk⟩
    have hcr := hrow pk (.pointer (some ⟨v, 0, none⟩)) (by simp [ptrs, hv])
    have HIV := hide (InvV.same ⟨vvs, vb, vs, ms, ls, og, h1, h2, h3, h4, h5, h6, h7, h8, h9, h10, h11, h12, h13, hv⟩ (hK.drew))
    have c1W : (w.alloc (.cells #[.int .i64 k, .int .i64 a, .int .i64 b, .int .i64 c, .string s, vk, vp] 81)).cell? ⟨pw, 1, none⟩ = some (.slice (some ⟨gv, 0, none⟩) vs.length cv) := by
      rw [← hvv, (hK.cell (p := ⟨pw, 1, none⟩) hpl (fun f => f))]; exact c1
    have crW : (w.alloc (.cells #[.int .i64 k, .int .i64 a, .int .i64 b, .int .i64 c, .string s, vk, vp] 81)).cell? ⟨gv, pk, none⟩ = some (.pointer (some ⟨v, 0, none⟩)) := (hK.cell (p := ⟨gv, pk, none⟩) hgl (fun f => f)).trans hcr
    have hSS : StepS pw w.heap.size gv vs.length cv pk v k a b c s vk vp (w.alloc (.cells #[.int .i64 k, .int .i64 a, .int .i64 b, .int .i64 c, .string s, vk, vp] 81)) := ⟨c1W, cell_of_heap hob, cell_of_heap hob, cell_of_heap hob, cell_of_heap hob, cell_of_heap hob, cell_of_heap hob, cell_of_heap hob, crW⟩
    rw [hvv] at c1
    have hn0 : (1 : Int) ≤ (vs.length : Int) := by omega
    have hp0 : (0 : Int) ≤ (pk : Int) := Int.natCast_nonneg _
    have hp1 : (pk : Int) < (vs.length : Int) := by omega
    have hne : ((vs.length : Int) == 0) = false := by rw [beq_eq_false_iff_ne]; omega
    have hvl9 : vs.length ≤ 9223372036854775807 := by omega
    have HV := hide hv
    have HPW := hide (And.intro h1 h2)
    clear h1 h2 h3 h4 h5 h6 h7 h8 h10 h11 h12 hv hvv hrow hcr hpke hob
    go_enter Tryz.func39, Tryz.ntmps39
    go_wp2_with fail
    generalize hW0 : w.alloc (.cells #[.int .i64 k, .int .i64 a, .int .i64 b, .int .i64 c, .string s, vk, vp] 81) = W0 at *
    clear hW0
    have s0 := hK.size
    go_region_held3 (fun w' => w'.cell? ⟨pw, 1, none⟩ = some (.slice (some ⟨gv, 0, none⟩) vs.length cv) ∧ w'.cell? ⟨w.heap.size, 0, none⟩ = some (.int .i64 k) ∧ w'.cell? ⟨w.heap.size, 1, none⟩ = some (.int .i64 a) ∧ w'.cell? ⟨w.heap.size, 2, none⟩ = some (.int .i64 b) ∧ w'.cell? ⟨w.heap.size, 3, none⟩ = some (.int .i64 c) ∧ w'.cell? ⟨w.heap.size, 4, none⟩ = some (.string s) ∧ w'.cell? ⟨w.heap.size, 5, none⟩ = some vk ∧ w'.cell? ⟨w.heap.size, 6, none⟩ = some vp ∧ w'.cell? ⟨gv, pk, none⟩ = some (.pointer (some ⟨v, 0, none⟩))) (first | exact hSS | exact hSS'') (first | (go_at_call 75; refine (pick_any a vs.length _ ha0 ha1 (by omega) hvl9).mono ?_; rintro e w' ⟨rfl, rfl⟩; rw [unhide HPK]) | (go_at_call 74; refine (onDisk_any (unhide HIV) (unhide HF) k a b c s vk vp bs ((unhide HO).same (Keeps.refl (fun _ => False) W0).drew (fun _ _ f => f) (by omega)) (unhide HKK)).mono ?_; rintro e w5 ⟨rfl, hD⟩; have hSS'' := StepS.done (W := W0.drew) hSS hD hoz' hgo))
    go_wp2
    go_ret
    refine ⟨rfl, hD.1, ((hK.mono (T := fun k => B ≤ k) (fun _ _ f => f.elim)).drew).trans hD.2.1 (fun i hi h => ?_)⟩
    rcases Nat.lt_or_ge i B with hb | hb
    · exact absurd (unhide HB i hb) h.1
    · exact hb

end Go.Proofs.YthbmmbgkchiajaaGreat
