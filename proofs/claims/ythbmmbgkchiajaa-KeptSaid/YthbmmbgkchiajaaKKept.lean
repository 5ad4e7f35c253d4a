
/- Kept: the whole walk. -/
import Derived.Test.YthbmmbgkchiajaaKStands
namespace Go.Proofs.Ythbmmbgkchiajaa
open Go.RowKit

theorem blank_zero : blankB = zero64 := by decide
theorem fresh_read (n q : Nat) (hq : q < n) : (freshDM n).read q = packB 0 0 ByteArray.empty := by
  rw [DM.read_nil _ rfl]
  show (List.replicate n zero64).getD q _ = blankB
  rw [blank_zero, List.getD_eq_getElem?_getD, List.getElem?_replicate, if_pos hq]; rfl

theorem DM.lose_ok {m : DM} (hm : m.ok) (bs : List Bool) : (m.lose bs).ok := ⟨by simpa [DM.lose, durTo_length] using hm.len, durTo_size _ _ _ (fun q hq => hm.dur q hq) (fun x hx => (hm.puts x hx).2) _, by simp [DM.lose]⟩

/-- A step that is no opening. -/
theorem notes_any (B ps pj pd : Nat) (k a : Int) (s : ByteArray) (vk : Value) (j : JM) (m : DM) (w : World) (h : KState B w ps pj pd j m) (hB : B ≤ w.heap.size) (hk0 : 0 ≤ k) (hk2 : k ≤ 2) (h0 : -9223372036854775808 ≤ a) (h1 : a ≤ 9223372036854775807) (hs : s.size ≤ 140737488351232) (hy : m.syncs < 9223372036854775807) (hfl : (j.L.length + 1) * 16 ≤ 140737488355328) :
    Calls Try.prog 8 #[.pointer (some ⟨ps, 0, none⟩), .pointer (some ⟨pj, 0, none⟩), .int .i64 (j.ring : Int), .int .i64 (j.per : Int), .agg #[.int .i64 k, .int .i64 a, .string s, vk]] w fun e w' => e = .returned (.bool true) ∧
      (∃ j' m', KState B w' ps pj pd j' m' ∧ j'.ring = j.ring ∧ j'.per = j.per ∧ j'.epoch = j.epoch ∧ j'.L.length ≤ j.L.length + 1 ∧ m'.syncs ≤ m.syncs + 1) ∧ Keeps (fun k => B ≤ k) w w' := by
  have hk : k = 0 ∨ k = 1 ∨ k = 2 := by omega
  rcases hk with rfl | rfl | rfl
  · by_cases hs40 : 40 < s.size
    · exact (notes_long B ps pj pd a s vk j m w h hs40 hs).mono fun e w' ⟨e1, e2, e3⟩ => ⟨e1, ⟨j, m, e2, rfl, rfl, rfl, Nat.le_succ _, Nat.le_succ _⟩, e3⟩
    · by_cases hf : j.full
      · exact (notes_full B ps pj pd a s vk j m w h (by omega) hf).mono fun e w' ⟨e1, e2, e3⟩ => ⟨e1, ⟨j, m, e2, rfl, rfl, rfl, Nat.le_succ _, Nat.le_succ _⟩, e3⟩
      · exact (notes_yes B ps pj pd a s vk j m w h (by omega) hf hfl hB).mono fun e w' ⟨e1, e2, e3⟩ => ⟨e1, ⟨_, _, e2, rfl, rfl, rfl, by simp, Nat.le_succ _⟩, e3⟩
  · by_cases ho : pickOf a (j.L.length + 1) ≤ j.safe
    · exact (notes_force_old B ps pj pd a s vk j m w h h0 h1 ho).mono fun e w' ⟨e1, e2, e3⟩ => ⟨e1, ⟨j, m, e2, rfl, rfl, rfl, Nat.le_succ _, Nat.le_succ _⟩, e3⟩
    · exact (notes_force_new B ps pj pd a s vk j m w h hy h0 h1 (by omega)).mono fun e w' ⟨e1, e2, e3⟩ => ⟨e1, ⟨_, _, e2, rfl, rfl, rfl, Nat.le_succ _, Nat.le_refl _⟩, e3⟩
  · by_cases hs40 : 40 < s.size
    · exact (notes_trunc_long B ps pj pd a s vk j m w h h0 h1 hs40 hs).mono fun e w' ⟨e1, e2, e3⟩ => ⟨e1, ⟨j, m, e2, rfl, rfl, rfl, Nat.le_succ _, Nat.le_succ _⟩, e3⟩
    · exact (notes_trunc_yes B ps pj pd a s vk j m w h hB hy h0 h1 (by omega)).mono fun e w' ⟨e1, e2, e3⟩ => ⟨e1, ⟨_, _, e2, rfl, rfl, rfl, Nat.le_succ _, Nat.le_refl _⟩, e3⟩

/-- A list of answers among the arguments: nil, or it lies below B. -/
def KeepA (B : Nat) (w : World) (ka : Option Addr) (bs : List Bool) : Prop :=
  ∀ j, j < bs.length → ∃ b o, ka = some ⟨b, o, none⟩ ∧ b < B ∧ w.cell? ⟨b, o + j, none⟩ = some (.bool (bs.getD j false))

/-- Step i of those that came in. -/
def NoteAt (B : Nat) (w : World) (ao : Option Addr) (i : Nat) : Prop :=
  ∃ gs os k a s ka kc bs, ao = some ⟨gs, os, none⟩ ∧ gs < B ∧ w.cell? ⟨gs, os + i * 4, none⟩ = some (.int .i64 k) ∧ w.cell? ⟨gs, os + i * 4 + 1, none⟩ = some (.int .i64 a) ∧ w.cell? ⟨gs, os + i * 4 + 2, none⟩ = some (.string s) ∧ w.cell? ⟨gs, os + i * 4 + 3, none⟩ = some (.slice ka bs.length kc) ∧
    -9223372036854775808 ≤ a ∧ a ≤ 9223372036854775807 ∧ s.size ≤ 140737488351232 ∧ bs.length ≤ 140737488351232 ∧ bs.length ≤ kc ∧ KeepA B w ka bs

/-- Between two steps. -/
def KRel (w : World) (R P ps pd : Nat) (i : Nat) (v9 v12 : Value) (wr : World) : Prop :=
  ∃ pj j m, v9 = .pointer (some ⟨pj, 0, none⟩) ∧ v12 = .int .i64 (j.epoch : Int) ∧ j.ring = R ∧ j.per = P ∧ KState w.heap.size wr ps pj pd j m ∧ Keeps (fun k => w.heap.size ≤ k) w wr ∧ j.L.length ≤ i ∧ j.epoch ≤ i + 1 ∧ m.syncs ≤ i + 1

/-- A journal's disk and shelf, while no journal is in use: all is ready for Open. -/
def KShut (B : Nat) (w : World) (ps pd : Nat) (j : JM) (m : DM) (safe : Nat) : Prop :=
  ∃ S T : Nat → Prop, (∀ k, S k → B ≤ k) ∧ (∀ k, T k → B ≤ k) ∧ (∀ k, S k → ¬ T k) ∧ PDisk S w pd m ∧ m.ok ∧ (m.puts.length + 101) * 72 ≤ 140737488355328 ∧ Found j m ∧ ShelfAt T w ps j.L j.low safe j.note

theorem KState.shut {B : Nat} {w : World} {ps pj pd : Nat} {j : JM} {m : DM} (h : KState B w ps pj pd j m) : KShut B w ps pd j m j.safe := by
  obtain ⟨S, T, h1, h2, h3, h4, h5⟩ := h
  exact ⟨S, T, h1, h2, h3, h4.1.disk, h4.2.2, h4.2.1.fewPuts, h4.2.1.found, h5⟩

end Go.Proofs.Ythbmmbgkchiajaa
