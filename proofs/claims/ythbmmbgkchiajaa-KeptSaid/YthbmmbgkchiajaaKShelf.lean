
/- A shelf: what must stand in a journal; notes, lost, stands. -/
import Derived.Test.YthbmmbgkchiajaaJUse
namespace Go.Proofs.Ythbmmbgkchiajaa
open Go.RowKit

theorem infoStr : (Try.prog.info? 9).map (fun i => (i.zero, i.size, i.bytes)) = some (some (.string ByteArray.empty), 1, 16) := by kernel_rfl

def ShelfAt (T : Nat → Prop) (w : World) (ps : Nat) (L : List ByteArray) (low safe : Nat) (note : ByteArray) : Prop :=
  ∃ vl, w.heap[ps]? = some (.cells #[vl, .int .i64 (low : Int), .int .i64 (safe : Int), .string note] 34 (0, 0)) ∧ T ps ∧ Own (fun k => T k ∧ k ≠ ps) w 9 1 vl L.length (L.map Value.string)

theorem ShelfAt.mono {S T : Nat → Prop} {w : World} {ps : Nat} {L : List ByteArray} {low safe : Nat} {note : ByteArray} (h : ShelfAt S w ps L low safe note) (hs : ∀ k, k < w.heap.size → S k → T k) : ShelfAt T w ps L low safe note := by
  obtain ⟨vl, h1, h2, h3⟩ := h
  exact ⟨vl, h1, hs ps (lt_of_heap h1) h2, h3.mono (fun k l d => ⟨hs k l d.1, d.2⟩)⟩
theorem ShelfAt.keep {S T : Nat → Prop} {w w' : World} {ps : Nat} {L : List ByteArray} {low safe : Nat} {note : ByteArray} (h : ShelfAt S w ps L low safe note) (hk : Keeps T w w') (hd : ∀ k, k < w.heap.size → S k → ¬ T k) : ShelfAt S w' ps L low safe note := by
  obtain ⟨vl, h1, h2, h3⟩ := h
  exact ⟨vl, hk.heap h1 (hd ps (lt_of_heap h1) h2), h2, h3.keep hk (fun k l d => hd k l d.1)⟩

/-- Between two steps: the journal with its disk and the shelf lie apart, above B. -/
def KState (B : Nat) (w : World) (ps pj pd : Nat) (j : JM) (m : DM) : Prop :=
  ∃ S T : Nat → Prop, (∀ k, S k → B ≤ k) ∧ (∀ k, T k → B ≤ k) ∧ (∀ k, S k → ¬ T k) ∧ JUse S w pj pd j m ∧ ShelfAt T w ps j.L j.low j.safe j.note

theorem KState.keep {B : Nat} {w w' : World} {ps pj pd : Nat} {j : JM} {m : DM} (h : KState B w ps pj pd j m) (hk : Keeps (fun _ => False) w w') : KState B w' ps pj pd j m := by
  obtain ⟨S, T, h1, h2, h3, h4, h5⟩ := h
  exact ⟨S, T, h1, h2, h3, h4.keep hk (fun _ _ _ f => f), h5.keep hk (fun _ _ _ f => f)⟩

/-- A quotient of two numbers, by a name of its own. -/
def quoI (x y : Value) : Sem Value := binOp .quo 3 x y
theorem quoI_eq (x y : Value) : binOp .quo 3 x y = quoI x y := rfl
theorem run_quoI (W : World) (a b : Nat) (ha : a ≤ 9223372036854775807) (hb : 1 ≤ b) : (quoI (.int .i64 (a : Int)) (.int .i64 (b : Int))).run Try.prog W = .ok (.int .i64 ((a / b : Nat) : Int)) W := by
  unfold quoI
  have e : (a : Int).tdiv (b : Int) = ((a / b : Nat) : Int) := by rw [Int.tdiv_eq_ediv_of_nonneg (by omega)]; rfl
  have e2 := Nat.div_le_self a b
  simp only [binOp_quo, Op.intDiv]
  rw [if_neg (by omega), e, IntWalk.i64_in _ ⟨by generalize a / b = z at *; omega, by generalize a / b = z at *; omega⟩]
  rfl

/-- What a step of notes finds in memory: the shelf's fields, and the step itself in a block of its own. -/
def NoteFacts (ps nb : Nat) (al : Option Addr) (n cl low safe : Nat) (note : ByteArray) (kind a : Int) (s : ByteArray) (vk : Value) (X : World) : Prop :=
  (X.cell? ⟨ps, 0, none⟩ = some (.slice al n cl) ∧ X.cell? ⟨ps, 1, none⟩ = some (.int .i64 (low : Int)) ∧ X.cell? ⟨ps, 2, none⟩ = some (.int .i64 (safe : Int)) ∧ X.cell? ⟨ps, 3, none⟩ = some (.string note)) ∧
  (X.cell? ⟨nb, 0, none⟩ = some (.int .i64 kind) ∧ X.cell? ⟨nb, 1, none⟩ = some (.int .i64 a) ∧ X.cell? ⟨nb, 2, none⟩ = some (.string s) ∧ X.cell? ⟨nb, 3, none⟩ = some vk)

/-- The beginning of notes. -/
structure NoteStart (B : Nat) (w : World) (ps pj pd : Nat) (j : JM) (m : DM) (kind a : Int) (s : ByteArray) (vk : Value) (S T : Nat → Prop) (al : Option Addr) (cl : Nat) : Prop where
  hS : ∀ k, S k → B ≤ k ∧ k < w.heap.size
  hT : ∀ k, T k → B ≤ k ∧ k < w.heap.size
  hST : ∀ k, S k → ¬ T k
  use : JUse S (w.alloc (.cells #[.int .i64 kind, .int .i64 a, .string s, vk] 37)) pj pd j m
  shelf : ShelfAt T (w.alloc (.cells #[.int .i64 kind, .int .i64 a, .string s, vk] 37)) ps j.L j.low j.safe j.note
  own : Own (fun k => T k ∧ k ≠ ps) (w.alloc (.cells #[.int .i64 kind, .int .i64 a, .string s, vk] 37)) 9 1 (.slice al j.L.length cl) j.L.length (j.L.map Value.string)
  heap : (w.alloc (.cells #[.int .i64 kind, .int .i64 a, .string s, vk] 37)).heap[ps]? = some (.cells #[.slice al j.L.length cl, .int .i64 (j.low : Int), .int .i64 (j.safe : Int), .string j.note] 34 (0, 0))
  tps : T ps
  keeps : Keeps (fun _ => False) w (w.alloc (.cells #[.int .i64 kind, .int .i64 a, .string s, vk] 37))
  facts : ∀ X, Keeps S (w.alloc (.cells #[.int .i64 kind, .int .i64 a, .string s, vk] 37)) X → NoteFacts ps w.heap.size al j.L.length cl j.low j.safe j.note kind a s vk X

theorem KState.start {B : Nat} {w : World} {ps pj pd : Nat} {j : JM} {m : DM} (h : KState B w ps pj pd j m) (kind a : Int) (s : ByteArray) (vk : Value) : ∃ S T al cl, NoteStart B w ps pj pd j m kind a s vk S T al cl := by
  obtain ⟨S, T, h1, h2, h3, h4, h5⟩ := h
  have h5' := h5
  obtain ⟨vl, g1, g2, g3⟩ := h5'
  obtain ⟨al, cl, rfl, _⟩ := g3.len
  have hk : Keeps (fun _ => False) w (w.alloc (.cells #[.int .i64 kind, .int .i64 a, .string s, vk] 37)) := (Keeps.refl _ _).alloc _
  have hb := heap_alloc_last w (.cells #[.int .i64 kind, .int .i64 a, .string s, vk] 37)
  have hpl := lt_of_heap g1
  refine ⟨fun k => S k ∧ k < w.heap.size, fun k => T k ∧ k < w.heap.size, al, cl, ⟨fun k d => ⟨h1 k d.1, d.2⟩, fun k d => ⟨h2 k d.1, d.2⟩, fun k d d' => h3 k d.1 d'.1, (h4.mono (fun k l d => ⟨d, l⟩)).keep hk (fun _ _ _ f => f), (h5.mono (fun k l d => ⟨d, l⟩)).keep hk (fun _ _ _ f => f), (g3.mono (fun k l d => ⟨⟨d.1, l⟩, d.2⟩)).keep hk (fun _ _ _ f => f), hk.heap g1 (fun f => f), ⟨g2, hpl⟩, hk, fun X hX => ?_⟩⟩
  have q1 := hX.heap (hk.heap g1 (fun f => f)) (fun d => h3 _ d.1 g2)
  have q2 := hX.heap hb (fun d => by omega)
  exact ⟨⟨cell_of_heap q1, cell_of_heap q1, cell_of_heap q1, cell_of_heap q1⟩, ⟨cell_of_heap q2, cell_of_heap q2, cell_of_heap q2, cell_of_heap q2⟩⟩

attribute [local go_sem ↓] quoI_eq bsOf_eq

theorem JM.ok.lim {j : JM} (h : j.ok) : j.L.length ≤ 9223372036854775807 ∧ j.low - 1 ≤ 9223372036854775807 ∧ 1 ≤ j.per := by
  have h1 := h.few
  have h2 := h.low
  have h3 := h.per
  omega

set_option maxRecDepth 100000 in
set_option maxHeartbeats 400000 in
theorem notes_long (B ps pj pd : Nat) (a : Int) (s : ByteArray) (vk : Value) (j : JM) (m : DM) (w : World) (h : KState B w ps pj pd j m) (hs : 40 < s.size) (hs' : s.size ≤ 140737488351232) :
    Calls Try.prog 8 #[.pointer (some ⟨ps, 0, none⟩), .pointer (some ⟨pj, 0, none⟩), .int .i64 (j.ring : Int), .int .i64 (j.per : Int), .agg #[.int .i64 0, .int .i64 a, .string s, vk]] w fun e w' => e = .returned (.bool true) ∧ KState B w' ps pj pd j m ∧ Keeps (fun k => B ≤ k) w w' := by
  have HK := hide h
  obtain ⟨S, T, al, cl, hst⟩ := h.start 0 a s vk
  have hok := hst.use.2.1.ok
  have hlim := hok.lim
  have hlow := hok.low
  have hring := hok.ring
  have hfew := hok.few
  have q1 := fun W => run_quoI W j.L.length j.per hlim.1 hlim.2.2
  have q2 : ∀ W, (quoI (.int .i64 ((j.low : Int) - 1)) (.int .i64 (j.per : Int))).run Try.prog W = .ok (.int .i64 (((j.low - 1) / j.per : Nat) : Int)) W := fun W => by
    have := run_quoI W (j.low - 1) j.per hlim.2.1 hlim.2.2
    rwa [show ((j.low - 1 : Nat) : Int) = (j.low : Int) - 1 by omega] at this
  have b1 := Nat.div_le_self j.L.length j.per
  have b2 := Nat.div_le_self (j.low - 1) j.per
  generalize j.L.length / j.per = A1 at *
  generalize (j.low - 1) / j.per = A2 at *
  obtain ⟨cap, W1, hbs, HB⟩ := run_bsOf (w.alloc (.cells #[.int .i64 0, .int .i64 a, .string s, vk] 37)) s
  obtain ⟨hB1, hk1⟩ := unhide HB
  obtain ⟨⟨p0, p1, p2, p3⟩, ⟨n0, n1, n2, n3⟩⟩ := hst.facts W1 (hk1.mono (fun _ _ f => f.elim))
  have HKW := hide (hst.keeps.trans hk1 (fun _ _ f => f))
  have HL := hide (fun W => append_long pj s.size cap (some ⟨(w.alloc (.cells #[.int .i64 0, .int .i64 a, .string s, vk] 37)).heap.size, 0, none⟩) W hs (by omega))
  have hsz : (w.alloc (.cells #[.int .i64 0, .int .i64 a, .string s, vk] 37)).heap.size = w.heap.size + 1 := by unfold World.alloc; exact Array.size_push _
  rw [hsz] at hbs HL
  clear hst hB1 hk1 HB h hok hsz
  go_enter Try.func8, Try.ntmps8
  go_wp2_with fail
  go_at_call 21
  refine (unhide HL W1).mono ?_
  rintro e w2 ⟨rfl, rfl⟩
  go_wp2
  go_quiet (fail)
  go_wp2
  go_ret
  exact ⟨rfl, ((unhide HK).keep (unhide HKW)).keep ((Keeps.refl _ _).drewN _), (((unhide HKW).mono (T := fun k => B ≤ k) (fun _ _ f => f.elim)).drewN _)⟩

end Go.Proofs.Ythbmmbgkchiajaa
