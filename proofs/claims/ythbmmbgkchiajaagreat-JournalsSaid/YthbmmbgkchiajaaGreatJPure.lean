
/- A journal on a disk, in plain words: what a sector holds, which sectors are the records', what holds while a journal is in use, and what is left of it behind a crash. -/
import Derived.Test.YthbmmbgkchiajaaGreatArrays
namespace Go.Proofs.YthbmmbgkchiajaaGreat
open Go.RowKit

/-- The eight bytes of a number. -/
def numB (n : Nat) : List UInt8 := [UInt8.ofNat n, UInt8.ofNat (n / 256), UInt8.ofNat (n / 65536), UInt8.ofNat (n / 16777216), UInt8.ofNat (n / 4294967296), UInt8.ofNat (n / 1099511627776), UInt8.ofNat (n / 281474976710656), UInt8.ofNat (n / 72057594037927936)]
def packL (a b : Nat) (t : List UInt8) : List UInt8 := numB a ++ numB b ++ UInt8.ofNat t.length :: t ++ List.replicate (47 - t.length) 0
def packB (a b : Nat) (t : ByteArray) : ByteArray := ⟨(packL a b t.data.toList).toArray⟩

theorem packB_list (a b : Nat) (t : ByteArray) : (packB a b t).data.toList = packL a b t.data.toList := rfl
theorem packB_size (a b : Nat) (t : ByteArray) (h : t.size ≤ 47) : (packB a b t).size = 64 := by
  have h' : t.data.toList.length ≤ 47 := by simpa using h
  show (packL a b t.data.toList).toArray.size = 64
  simp only [List.size_toArray, packL, numB, List.length_append, List.length_cons, List.length_nil, List.length_replicate]
  omega

def DM.sync (m : DM) : DM := ⟨durTo m.dur m.puts (fun _ => true) m.puts.length, [], m.syncs + 1⟩

theorem getD_set (l : List ByteArray) (i q : Nat) (s d : ByteArray) (hq : q < l.length) : (l.set i s).getD q d = if i = q then s else l.getD q d := by
  simp only [List.getD_eq_getElem?_getD, List.getElem?_set]
  split
  · rename_i h; subst h; rw [if_pos hq]; rfl
  · rfl

theorem durTo_true (l : List ByteArray) (ps : List (Nat × ByteArray)) (q : Nat) (hq : q < l.length) : ∀ k, k ≤ ps.length → (durTo l ps (fun _ => true) k).getD q ByteArray.empty = lastPut (ps.take k) q (l.getD q ByteArray.empty)
  | 0, _ => rfl
  | k + 1, hk => by
    have hx : ps[k]? = some ps[k] := List.getElem?_eq_getElem (by omega)
    rw [durTo_yes hx rfl, getD_set _ _ _ _ _ (by rw [durTo_length]; exact hq), durTo_true l ps q hq k (by omega), List.take_add_one, hx]
    exact (lastPut_snoc _ _ _ _).symm

theorem durTo_miss (l : List ByteArray) (ps : List (Nat × ByteArray)) (keep : Nat → Bool) (q : Nat) (hq : q < l.length) : ∀ k, k ≤ ps.length → (∀ j y, j < k → ps[j]? = some y → y.1 = q → keep j = false) → (durTo l ps keep k).getD q ByteArray.empty = l.getD q ByteArray.empty
  | 0, _, _ => rfl
  | k + 1, hk, h => by
    have hx : ps[k]? = some ps[k] := List.getElem?_eq_getElem (by omega)
    have ih := durTo_miss l ps keep q hq k (by omega) (fun j y hj => h j y (by omega))
    by_cases hkk : keep k = true
    · rw [durTo_yes hx hkk, getD_set _ _ _ _ _ (by rw [durTo_length]; exact hq), if_neg, ih]
      intro e
      rw [h k _ (by omega) hx e] at hkk
      cases hkk
    · rw [durTo_no hx (by simpa using hkk), ih]

theorem durTo_hit (l : List ByteArray) (ps : List (Nat × ByteArray)) (keep : Nat → Bool) (q i : Nat) (s : ByteArray) (hq : q < l.length) (hi : ps[i]? = some (q, s)) (hki : keep i = true) : ∀ k, k ≤ ps.length → i < k → (∀ j y, i < j → ps[j]? = some y → y.1 ≠ q) → (durTo l ps keep k).getD q ByteArray.empty = s
  | 0, _, h, _ => by omega
  | k + 1, hk, hik, h => by
    have hx : ps[k]? = some ps[k] := List.getElem?_eq_getElem (by omega)
    by_cases e : i = k
    · subst e
      rw [durTo_yes hi hki, getD_set _ _ _ _ _ (by rw [durTo_length]; exact hq), if_pos rfl]
    · have ih := durTo_hit l ps keep q i s hq hi hki k (by omega) (by omega) h
      by_cases hkk : keep k = true
      · rw [durTo_yes hx hkk, getD_set _ _ _ _ _ (by rw [durTo_length]; exact hq), if_neg (h k _ (by omega) hx), ih]
      · rw [durTo_no hx (by simpa using hkk), ih]

theorem DM.sync_dur (m : DM) (q : Nat) (hq : q < m.dur.length) : m.sync.dur.getD q ByteArray.empty = m.read q := by
  have := durTo_true m.dur m.puts q hq m.puts.length (Nat.le_refl _)
  rw [List.take_length] at this
  exact this
theorem DM.sync_read (m : DM) (q : Nat) (hq : q < m.dur.length) : m.sync.read q = m.read q := m.sync_dur q hq
theorem DM.put_read (m : DM) (i q : Nat) (s : ByteArray) : (m.put i s).read q = if i = q then s else m.read q := lastPut_snoc _ _ _ _
theorem DM.read_nil (m : DM) (h : m.puts = []) (q : Nat) : m.read q = m.dur.getD q ByteArray.empty := by unfold DM.read; rw [h]; rfl
theorem DM.sync_ok {m : DM} (hm : m.ok) : m.sync.ok := ⟨by simpa [DM.sync, durTo_length] using hm.len, durTo_size _ _ _ (fun q hq => hm.dur q hq) (fun x hx => (hm.puts x hx).2) _, by simp [DM.sync]⟩
theorem DM.sync_len (m : DM) : m.sync.dur.length = m.dur.length := durTo_length _ _ _ _

/-- Several writes of the same bytes. -/
def DM.puts' (m : DM) (is : List Nat) (s : ByteArray) : DM := is.foldl (fun m i => m.put i s) m
theorem DM.puts'_snoc (m : DM) (is : List Nat) (i : Nat) (s : ByteArray) : m.puts' (is ++ [i]) s = (m.puts' is s).put i s := by simp [DM.puts']
theorem DM.puts'_dur (s : ByteArray) : ∀ (is : List Nat) (m : DM), (m.puts' is s).dur = m.dur
  | [], _ => rfl
  | i :: is, m => (DM.puts'_dur s is (m.put i s)).trans rfl
theorem DM.puts'_syncs (s : ByteArray) : ∀ (is : List Nat) (m : DM), (m.puts' is s).syncs = m.syncs
  | [], _ => rfl
  | i :: is, m => (DM.puts'_syncs s is (m.put i s)).trans rfl
theorem DM.puts'_len (s : ByteArray) : ∀ (is : List Nat) (m : DM), (m.puts' is s).puts.length = m.puts.length + is.length
  | [], _ => rfl
  | i :: is, m => by
    show ((m.put i s).puts' is s).puts.length = _
    rw [DM.puts'_len s is (m.put i s)]
    simp [DM.put]; omega
theorem DM.puts'_ok {s : ByteArray} (hs : s.size = 64) : ∀ (is : List Nat) {m : DM}, m.ok → (∀ i ∈ is, i < m.dur.length) → (m.puts' is s).ok
  | [], _, h, _ => h
  | i :: is, m, h, hi => DM.puts'_ok hs is (DM.put_ok h (hi i (by simp)) hs) (fun j hj => hi j (by simp [hj]))
theorem DM.puts'_out (s : ByteArray) (q : Nat) : ∀ (is : List Nat) (m : DM), q ∉ is → (m.puts' is s).read q = m.read q
  | [], _, _ => rfl
  | i :: is, m, h => by
    show ((m.put i s).puts' is s).read q = _
    rw [DM.puts'_out s q is _ (fun e => h (by simp [e])), DM.put_read, if_neg (fun e => h (by simp [e]))]
theorem DM.puts'_in (s : ByteArray) (q : Nat) : ∀ (is : List Nat) (m : DM), q ∈ is → (m.puts' is s).read q = s
  | [], _, h => by cases h
  | i :: is, m, h => by
    show ((m.put i s).puts' is s).read q = _
    by_cases hq : q ∈ is
    · exact DM.puts'_in s q is _ hq
    · rw [DM.puts'_out s q is _ hq, DM.put_read, if_pos]
      rcases List.mem_cons.1 h with h | h
      · exact h.symm
      · exact absurd h hq

/-- A journal. -/
structure JM where
  ring : Nat
  per : Nat
  L : List ByteArray
  low : Nat
  safe : Nat
  epoch : Nat
  note : ByteArray

/-- Where record n has its place. -/
def slot (ring per n : Nat) : Nat := 2 + (n - 1) % (ring * per)
theorem slot_lt (ring per n : Nat) (h : 0 < ring * per) : slot ring per n < ring * per + 2 := by
  have := Nat.mod_lt (n - 1) h
  unfold slot; omega
theorem slot_ge (ring per n : Nat) : 2 ≤ slot ring per n := by unfold slot; omega
theorem slot_inj {ring per a b : Nat} (ha : 1 ≤ a) (hab : a ≤ b) (hb : b < a + ring * per) (h : slot ring per a = slot ring per b) : a = b := by
  unfold slot at h
  have h1 : (b - 1) % (ring * per) = (a - 1) % (ring * per) := by omega
  have h2 := Nat.sub_mod_eq_zero_of_mod_eq h1
  rw [Nat.mod_eq_of_lt (by omega)] at h2
  omega
theorem slot_ne {ring per a b lo : Nat} (hlo : 1 ≤ lo) (ha : lo ≤ a) (hb : lo ≤ b) (ha' : a < lo + ring * per) (hb' : b < lo + ring * per) (h : a ≠ b) : slot ring per a ≠ slot ring per b := by
  intro e
  rcases Nat.le_total a b with hab | hab
  · exact h (slot_inj (by omega) hab (by omega) e)
  · exact h (slot_inj (by omega) hab (by omega) e.symm).symm
/-- Each sector of the ring is the place of one of any so many records in a row. -/
theorem slot_onto {ring per q lo : Nat} (hlo : 1 ≤ lo) (h2 : 2 ≤ q) (hq : q < ring * per + 2) : ∃ n, lo ≤ n ∧ n < lo + ring * per ∧ slot ring per n = q := by
  have hC : 0 < ring * per := by omega
  generalize hc : ring * per = C at *
  have hm := Nat.mod_lt (lo - 1) hC
  have hd := Nat.div_add_mod (lo - 1) C
  have key : ∀ x k : Nat, x < C → (C * k + x) % C = x := fun x k hx => by rw [Nat.mul_add_mod, Nat.mod_eq_of_lt hx]
  unfold slot
  rw [hc]
  by_cases h : (lo - 1) % C ≤ q - 2
  · refine ⟨C * ((lo - 1) / C) + (q - 2) + 1, by omega, by omega, ?_⟩
    rw [Nat.add_sub_cancel, key _ _ (by omega)]; omega
  · refine ⟨C * ((lo - 1) / C + 1) + (q - 2) + 1, by rw [Nat.mul_add]; omega, by rw [Nat.mul_add]; omega, ?_⟩
    rw [Nat.add_sub_cancel, key _ _ (by omega)]; omega

def nameB : ByteArray := ⟨#[112, 97, 99, 116, 32, 106, 111, 117, 114, 110, 97, 108]⟩
/-- The bytes of a sector that a journal wrote. -/
def Sec (s : ByteArray) (k : Nat → Prop) : Prop := ∃ a b t, s = packB a b t ∧ t.size ≤ 40 ∧ a < 4611686018427387904 ∧ b < 4611686018427387904 ∧ k a

/-- What is so of every journal. -/
structure JM.ok (j : JM) : Prop where
  ring : 2 ≤ j.ring ∧ j.ring ≤ 6
  per : 2 ≤ j.per ∧ j.per ≤ 16
  low : 1 ≤ j.low ∧ j.low ≤ j.L.length + 1
  win : j.L.length ≤ (j.low - 1) / j.per * j.per + j.ring * j.per
  sizes : ∀ s ∈ j.L, s.size ≤ 40
  note : j.note.size ≤ 40
  few : j.L.length < 2305843009213693952 ∧ j.epoch < 2305843009213693952

theorem JM.ok.span {j : JM} (h : j.ok) : j.L.length + 1 ≤ j.low + j.ring * j.per := by
  have h1 := Nat.div_mul_le_self (j.low - 1) j.per
  have h2 := h.win
  have h3 := h.low
  omega
theorem JM.ok.pos {j : JM} (h : j.ok) : 4 ≤ j.ring * j.per ∧ j.ring * j.per ≤ 96 := ⟨Nat.mul_le_mul h.ring.1 h.per.1, Nat.mul_le_mul h.ring.2 h.per.2⟩

def JM.recd (j : JM) (n : Nat) : ByteArray := packB n 0 (j.L.getD (n - 1) ByteArray.empty)

/-- What a disk tells of a journal that is not in use. -/
structure Found (j : JM) (m : DM) : Prop where
  ok : j.ok
  room : j.ring * j.per + 2 ≤ m.dur.length
  shape : m.read 0 = packB j.ring j.per nameB
  state : m.read 1 = packB j.low j.epoch j.note
  live : ∀ n, j.low ≤ n → n ≤ j.L.length → m.read (slot j.ring j.per n) = j.recd n
  rest : j.L.length < (j.low - 1) / j.per * j.per + j.ring * j.per → Sec (m.read (slot j.ring j.per (j.L.length + 1))) (fun a => a ≠ j.L.length + 1)

/-- While it is in use. -/
structure InUse (j : JM) (m : DM) : Prop where
  ok : j.ok
  safe : j.low ≤ j.safe + 1 ∧ j.safe ≤ j.L.length
  room : j.ring * j.per + 2 ≤ m.dur.length
  shape : m.dur.getD 0 ByteArray.empty = packB j.ring j.per nameB
  state : m.dur.getD 1 ByteArray.empty = packB j.low j.epoch j.note
  live : ∀ n, j.low ≤ n → n ≤ j.safe → m.dur.getD (slot j.ring j.per n) ByteArray.empty = j.recd n
  puts : m.puts = (List.range (j.L.length - j.safe)).map fun i => (slot j.ring j.per (j.safe + 1 + i), j.recd (j.safe + 1 + i))
  old : ∀ q, 2 ≤ q → q < j.ring * j.per + 2 → Sec (m.dur.getD q ByteArray.empty) (fun a => a ≤ j.safe)

theorem InUse.put_at {j : JM} {m : DM} (h : InUse j m) {i : Nat} {x : Nat × ByteArray} (hx : m.puts[i]? = some x) : j.safe + 1 + i ≤ j.L.length ∧ x = (slot j.ring j.per (j.safe + 1 + i), j.recd (j.safe + 1 + i)) := by
  rw [h.puts] at hx
  simp only [List.getElem?_map, Option.map_eq_some_iff] at hx
  obtain ⟨a, ha, rfl⟩ := hx
  have hl := (List.getElem?_eq_some_iff.1 ha).1
  rw [List.length_range] at hl
  rw [List.getElem?_range hl] at ha
  cases ha
  exact ⟨by omega, rfl⟩
theorem InUse.put_of {j : JM} {m : DM} (h : InUse j m) {n : Nat} (h0 : j.safe < n) (h1 : n ≤ j.L.length) : m.puts[n - j.safe - 1]? = some (slot j.ring j.per n, j.recd n) := by
  rw [h.puts, List.getElem?_map, List.getElem?_range (by omega)]
  have e : j.safe + 1 + (n - j.safe - 1) = n := by omega
  simp only [Option.map_some, e]
theorem InUse.putsLen {j : JM} {m : DM} (h : InUse j m) : m.puts.length = j.L.length - j.safe := by rw [h.puts]; simp
theorem InUse.slots {j : JM} {m : DM} (h : InUse j m) {a b : Nat} (ha : j.low ≤ a) (hb : j.low ≤ b) (ha' : a < j.low + j.ring * j.per) (hb' : b < j.low + j.ring * j.per) (hne : a ≠ b) : slot j.ring j.per a ≠ slot j.ring j.per b := slot_ne h.ok.low.1 ha hb ha' hb' hne

theorem InUse.read_new {j : JM} {m : DM} (h : InUse j m) {n : Nat} (h0 : j.safe < n) (h1 : n ≤ j.L.length) : m.read (slot j.ring j.per n) = j.recd n := by
  have hs := h.ok.span
  have hsf := h.safe
  refine lastPut_drop m.puts _ _ (n - j.safe - 1) (by rw [h.putsLen]; omega) ?_ _ (h.put_of h0 h1) rfl
  intro k x hk hx
  obtain ⟨e1, e2⟩ := h.put_at hx
  rw [e2]
  exact h.slots (by omega) (by omega) (by omega) (by omega) (by omega)
theorem InUse.read_old {j : JM} {m : DM} (h : InUse j m) {q : Nat} (hq : ∀ n, j.safe < n → n ≤ j.L.length → slot j.ring j.per n ≠ q) : m.read q = m.dur.getD q ByteArray.empty := by
  refine lastPut_none m.puts _ _ ?_
  intro k x hx
  obtain ⟨e1, e2⟩ := h.put_at hx
  rw [e2]
  exact hq _ (by omega) e1

theorem InUse.read_live {j : JM} {m : DM} (h : InUse j m) {n : Nat} (h0 : j.low ≤ n) (h1 : n ≤ j.L.length) : m.read (slot j.ring j.per n) = j.recd n := by
  have hs := h.ok.span
  have hsf := h.safe
  by_cases hn : j.safe < n
  · exact h.read_new hn h1
  · rw [h.read_old, h.live n h0 (by omega)]
    intro k h2 h3
    exact h.slots (by omega) (by omega) (by omega) (by omega) (by omega)
theorem InUse.read_low {j : JM} {m : DM} (h : InUse j m) {q : Nat} (hq : q < 2) : m.read q = m.dur.getD q ByteArray.empty :=
  h.read_old (fun n _ _ e => by have := slot_ge j.ring j.per n; omega)

theorem JM.rec_sec {j : JM} (h : j.ok) (n : Nat) (h1 : n ≤ j.L.length) (k : Nat → Prop) (hk : k n) : Sec (j.recd n) k := by
  refine ⟨n, 0, _, rfl, ?_, by have := h.few; omega, by omega, hk⟩
  rw [List.getD_eq_getElem?_getD]
  cases hx : j.L[n - 1]? with
  | none => simp
  | some s => exact h.sizes s (List.mem_of_getElem? hx)

/-- All that is read of the ring is a record so far, or nothing. -/
theorem InUse.read_sec {j : JM} {m : DM} (h : InUse j m) {q : Nat} (h2 : 2 ≤ q) (hq : q < j.ring * j.per + 2) : Sec (m.read q) (fun a => a ≤ j.L.length) := by
  by_cases hx : ∃ n, j.safe < n ∧ n ≤ j.L.length ∧ slot j.ring j.per n = q
  · obtain ⟨n, h0, h1, rfl⟩ := hx
    rw [h.read_new h0 h1]
    exact JM.rec_sec h.ok n h1 _ h1
  · rw [h.read_old (fun n h0 h1 e => hx ⟨n, h0, h1, e⟩)]
    obtain ⟨a, b, t, e, e1, e2, e3, e4⟩ := h.old q h2 hq
    exact ⟨a, b, t, e, e1, e2, e3, by have := h.safe; omega⟩

theorem InUse.found {j : JM} {m : DM} (h : InUse j m) : Found j m := by
  have hp := h.ok.pos
  refine ⟨h.ok, h.room, (h.read_low (by omega)).trans h.shape, (h.read_low (by omega)).trans h.state, fun n h0 h1 => h.read_live h0 h1, fun _ => ?_⟩
  obtain ⟨a, b, t, e, e1, e2, e3, e4⟩ := h.read_sec (slot_ge j.ring j.per (j.L.length + 1)) (slot_lt _ _ _ (by omega))
  exact ⟨a, b, t, e, e1, e2, e3, by omega⟩

/-- A journal whose writes are all durable. -/
theorem inUse_sync {j : JM} {m : DM} (hok : j.ok) (hsafe : j.safe = j.L.length) (hroom : j.ring * j.per + 2 ≤ m.dur.length) (h0 : m.read 0 = packB j.ring j.per nameB) (h1 : m.read 1 = packB j.low j.epoch j.note)
    (hl : ∀ n, j.low ≤ n → n ≤ j.L.length → m.read (slot j.ring j.per n) = j.recd n) (ho : ∀ q, 2 ≤ q → q < j.ring * j.per + 2 → Sec (m.read q) (fun a => a ≤ j.L.length)) : InUse j m.sync := by
  have hp := hok.pos
  have hw := hok.low
  refine ⟨hok, by omega, by rw [m.sync_len]; exact hroom, (m.sync_dur 0 (by omega)).trans h0, (m.sync_dur 1 (by omega)).trans h1, fun n a b => ?_, ?_, fun q a b => ?_⟩
  · rw [m.sync_dur _ (by have := slot_lt j.ring j.per n (by omega); omega)]
    exact hl n a (by omega)
  · show ([] : List (Nat × ByteArray)) = _
    rw [hsafe, Nat.sub_self]; rfl
  · rw [m.sync_dur _ (by omega), hsafe]
    exact ho q a b

theorem InUse.force {j : JM} {m : DM} (h : InUse j m) : InUse { j with safe := j.L.length } m.sync :=
  inUse_sync (j := { j with safe := j.L.length }) ⟨h.ok.ring, h.ok.per, h.ok.low, h.ok.win, h.ok.sizes, h.ok.note, h.ok.few⟩ rfl h.room h.found.shape h.found.state (fun _ a b => h.read_live a b) (fun _ a b => h.read_sec a b)

theorem InUse.truncate {j : JM} {m : DM} (h : InUse j m) {low : Nat} {note : ByteArray} (h0 : j.low ≤ low) (h1 : low ≤ j.L.length + 1) (hn : note.size ≤ 40) : InUse { j with low := low, note := note, safe := j.L.length } (m.put 1 (packB low j.epoch note)).sync := by
  have hw : (j.low - 1) / j.per * j.per ≤ (low - 1) / j.per * j.per := Nat.mul_le_mul_right _ (Nat.div_le_div_right (by omega))
  have hww := h.ok.win
  have hll := h.ok.low
  refine inUse_sync (j := { j with low := low, note := note, safe := j.L.length }) ⟨h.ok.ring, h.ok.per, ⟨by show 1 ≤ low; omega, h1⟩, by show j.L.length ≤ (low - 1) / j.per * j.per + j.ring * j.per; omega, h.ok.sizes, hn, h.ok.few⟩ rfl h.room ?_ ?_ (fun n a b => ?_) (fun q a b => ?_)
  · rw [DM.put_read, if_neg (by omega)]; exact h.found.shape
  · rw [DM.put_read, if_pos rfl]
  · rw [DM.put_read, if_neg (by have := slot_ge j.ring j.per n; show ¬ 1 = slot j.ring j.per n; omega)]
    exact h.read_live (Nat.le_trans h0 a) b
  · rw [DM.put_read, if_neg (by omega)]; exact h.read_sec a b

theorem rec_append (j : JM) (s : ByteArray) (n : Nat) (h1 : 1 ≤ n) (hn : n ≤ j.L.length) : JM.recd { j with L := j.L ++ [s] } n = j.recd n := by
  unfold JM.recd
  simp only [List.getD_eq_getElem?_getD]
  rw [List.getElem?_append_left (by omega)]
theorem rec_append_last (j : JM) (s : ByteArray) : JM.recd { j with L := j.L ++ [s] } (j.L.length + 1) = packB (j.L.length + 1) 0 s := by
  unfold JM.recd
  simp only [List.getD_eq_getElem?_getD, Nat.add_sub_cancel]
  rw [List.getElem?_append_right (Nat.le_refl _), Nat.sub_self]
  rfl

theorem InUse.append {j : JM} {m : DM} (h : InUse j m) {s : ByteArray} (hs : s.size ≤ 40) (hfull : j.L.length / j.per < (j.low - 1) / j.per + j.ring) (hfew : j.L.length + 1 < 2305843009213693952) :
    InUse { j with L := j.L ++ [s] } (m.put (slot j.ring j.per (j.L.length + 1)) (packB (j.L.length + 1) 0 s)) := by
  have hsf := h.safe
  have hlo := h.ok.low
  have hpp := h.ok.per
  have hlt : j.L.length < ((j.low - 1) / j.per + j.ring) * j.per := (Nat.div_lt_iff_lt_mul (by omega)).1 hfull
  have hw : j.L.length + 1 ≤ (j.low - 1) / j.per * j.per + j.ring * j.per := by rw [← Nat.add_mul]; exact hlt
  refine ⟨⟨h.ok.ring, h.ok.per, ⟨h.ok.low.1, by simp; omega⟩, by simpa using hw, ?_, h.ok.note, ⟨by simpa using hfew, h.ok.few.2⟩⟩, ⟨h.safe.1, by simp; omega⟩, h.room, h.shape, h.state, ?_, ?_, h.old⟩
  · intro x hx
    simp only [List.mem_append, List.mem_singleton] at hx
    rcases hx with hx | rfl
    · exact h.ok.sizes x hx
    · exact hs
  · intro n a b
    rw [rec_append j s n (by have : j.low ≤ n := a; omega) (by have : n ≤ j.safe := b; omega)]
    exact h.live n a b
  · show m.puts ++ [_] = _
    have e : (j.L ++ [s]).length - j.safe = (j.L.length - j.safe) + 1 := by simp; omega
    simp only
    rw [e, List.range_succ, List.map_append, h.puts]
    congr 1
    · refine List.map_congr_left (fun i hi => ?_)
      rw [List.mem_range] at hi
      rw [rec_append j s _ (by omega) (by omega)]
    · have e2 : j.safe + 1 + (j.L.length - j.safe) = j.L.length + 1 := by omega
      simp only [List.map_cons, List.map_nil, e2]
      rw [rec_append_last]

/-- How many records of a crash are left. -/
def runOf : List Bool → Nat → Nat
  | _, 0 => 0
  | [], _ + 1 => 0
  | b :: bs, n + 1 => if b then runOf bs n + 1 else 0
theorem runOf_le : ∀ (bs : List Bool) (n : Nat), runOf bs n ≤ n
  | _, 0 => by unfold runOf; omega
  | [], n + 1 => by unfold runOf; omega
  | b :: bs, n + 1 => by
    unfold runOf
    have := runOf_le bs n
    split <;> omega
theorem runOf_yes : ∀ (bs : List Bool) (n i : Nat), i < runOf bs n → bs.getD i false = true
  | _, 0, i, h => by unfold runOf at h; omega
  | [], n + 1, i, h => by unfold runOf at h; omega
  | b :: bs, n + 1, i, h => by
    unfold runOf at h
    split at h
    · cases i with
      | zero => simpa
      | succ i => simpa using runOf_yes bs n i (by omega)
    · omega
theorem runOf_no : ∀ (bs : List Bool) (n : Nat), runOf bs n < n → bs.getD (runOf bs n) false = false
  | _, 0, h => by omega
  | [], n + 1, _ => by simp
  | b :: bs, n + 1, h => by
    unfold runOf at h ⊢
    split at h
    · rename_i hb
      rw [if_pos hb]
      simpa using runOf_no bs n (by omega)
    · rename_i hb
      rw [if_neg hb]
      simpa using hb

def JM.crash (j : JM) (bs : List Bool) : JM := { j with L := j.L.take (j.safe + runOf bs (j.L.length - j.safe)), safe := j.safe + runOf bs (j.L.length - j.safe) }
def DM.lose (m : DM) (bs : List Bool) : DM := ⟨durTo m.dur m.puts (fun k => bs.getD k false) m.puts.length, [], m.syncs⟩
theorem DM.lose_len (m : DM) (bs : List Bool) : (m.lose bs).dur.length = m.dur.length := durTo_length _ _ _ _

theorem InUse.crash {j : JM} {m : DM} (h : InUse j m) (bs : List Bool) : Found (j.crash bs) (m.lose bs) := by
  have hr := runOf_le bs (j.L.length - j.safe)
  have hsf := h.safe
  have hs := h.ok.span
  have hp := h.ok.pos
  have hlo := h.ok.low
  have hroom := h.room
  have hn1 : (j.crash bs).L.length = j.safe + runOf bs (j.L.length - j.safe) := by simp [JM.crash]; omega
  have hmiss : ∀ q, q < m.dur.length → (∀ n, j.safe < n → n ≤ j.L.length → slot j.ring j.per n = q → bs.getD (n - j.safe - 1) false = false) → (m.lose bs).dur.getD q ByteArray.empty = m.dur.getD q ByteArray.empty := by
    intro q hq hx
    refine durTo_miss m.dur m.puts _ q hq _ (Nat.le_refl _) ?_
    intro i y hi hy e
    obtain ⟨e1, e2⟩ := h.put_at hy
    have := hx (j.safe + 1 + i) (by omega) e1 (by rw [← e, e2])
    rwa [show j.safe + 1 + i - j.safe - 1 = i by omega] at this
  refine ⟨⟨h.ok.ring, h.ok.per, ⟨h.ok.low.1, by rw [hn1]; show j.low ≤ _; omega⟩, by rw [hn1]; have := h.ok.win; show _ ≤ (j.low - 1) / j.per * j.per + j.ring * j.per; omega, fun s hs => h.ok.sizes s (List.mem_of_mem_take hs), h.ok.note, ⟨by rw [hn1]; have := h.ok.few; omega, h.ok.few.2⟩⟩, by rw [m.lose_len]; exact h.room, ?_, ?_, ?_, ?_⟩
  · rw [DM.read_nil _ rfl, hmiss 0 (by omega) (fun n _ _ e => by have := slot_ge j.ring j.per n; omega)]; exact h.shape
  · rw [DM.read_nil _ rfl, hmiss 1 (by omega) (fun n _ _ e => by have := slot_ge j.ring j.per n; omega)]; exact h.state
  · intro n a b
    rw [hn1] at b
    have a' : j.low ≤ n := a
    have hsl := slot_lt j.ring j.per n (by omega)
    show (m.lose bs).read (slot j.ring j.per n) = _
    rw [DM.read_nil _ rfl]
    have e : (j.crash bs).recd n = j.recd n := by
      unfold JM.recd JM.crash
      simp only [List.getD_eq_getElem?_getD]
      rw [List.getElem?_take, if_pos (by omega)]
    rw [e]
    by_cases hn : j.safe < n
    · refine durTo_hit m.dur m.puts _ _ (n - j.safe - 1) _ (by omega) (h.put_of hn (by omega)) (runOf_yes bs (j.L.length - j.safe) (n - j.safe - 1) (by omega)) _ (Nat.le_refl _) (by rw [h.putsLen]; omega) ?_
      intro k y hk hy
      obtain ⟨e1, e2⟩ := h.put_at hy
      rw [e2]
      exact h.slots (by omega) (by omega) (by omega) (by omega) (by omega)
    · rw [hmiss _ (by omega), h.live n a' (by omega)]
      intro k h0 h1 e
      exact absurd e (h.slots (by omega) (by omega) (by omega) (by omega) (by omega))
  · intro hlt
    rw [hn1] at hlt ⊢
    have hlt' : j.safe + runOf bs (j.L.length - j.safe) < (j.low - 1) / j.per * j.per + j.ring * j.per := hlt
    have hdd := Nat.div_mul_le_self (j.low - 1) j.per
    have hsl := slot_lt j.ring j.per (j.safe + runOf bs (j.L.length - j.safe) + 1) (by omega)
    show Sec ((m.lose bs).read (slot j.ring j.per _)) _
    rw [DM.read_nil _ rfl, hmiss _ (by omega)]
    · obtain ⟨a, b, t, e, e1, e2, e3, e4⟩ := h.old _ (slot_ge j.ring j.per (j.safe + runOf bs (j.L.length - j.safe) + 1)) hsl
      exact ⟨a, b, t, e, e1, e2, e3, by omega⟩
    · intro n h0 h1 e
      by_cases hne : n = j.safe + runOf bs (j.L.length - j.safe) + 1
      · subst hne
        have := runOf_no bs (j.L.length - j.safe) (by omega)
        rwa [show j.safe + runOf bs (j.L.length - j.safe) + 1 - j.safe - 1 = runOf bs (j.L.length - j.safe) by omega]
      · exact absurd e (h.slots (by omega) (by omega) (by omega) (by omega) hne)

/-- Behind a crash there is nothing to lose. -/
theorem DM.lose_nil (m : DM) (h : m.puts = []) (bs : List Bool) : m.lose bs = m := by
  obtain ⟨d, p, y⟩ := m
  simp only at h
  subst h
  rfl

/-- The sectors that hold no record. -/
def frees (ring per next free : Nat) : List Nat := (List.range free).map fun k => slot ring per (next + k)
theorem frees_succ (ring per next k : Nat) : frees ring per next (k + 1) = frees ring per next k ++ [slot ring per (next + k)] := by simp [frees, List.range_succ]
def blankB : ByteArray := packB 0 0 ByteArray.empty
theorem blank_sec (k : Nat → Prop) (h : k 0) : Sec blankB k := ⟨0, 0, ByteArray.empty, rfl, by simp, by omega, by omega, h⟩

/-- The beginning of a journal's use: all sectors without a record are wiped; the state is written; a Sync. -/
theorem inUse_begin {j : JM} {m : DM} (hok : j.ok) (hsafe : j.safe = j.L.length) (hroom : j.ring * j.per + 2 ≤ m.dur.length) (h0 : m.read 0 = packB j.ring j.per nameB)
    (hl : ∀ n, j.low ≤ n → n ≤ j.L.length → m.read (slot j.ring j.per n) = j.recd n) :
    InUse j ((m.puts' (frees j.ring j.per (j.L.length + 1) (j.ring * j.per - (j.L.length + 1 - j.low))) blankB).put 1 (packB j.low j.epoch j.note)).sync := by
  have hp := hok.pos
  have hs := hok.span
  have hlo := hok.low
  have hin : ∀ n, j.L.length < n → n < j.low + j.ring * j.per → slot j.ring j.per n ∈ frees j.ring j.per (j.L.length + 1) (j.ring * j.per - (j.L.length + 1 - j.low)) := by
    intro n a b
    refine List.mem_map.2 ⟨n - (j.L.length + 1), List.mem_range.2 (by omega), ?_⟩
    rw [show j.L.length + 1 + (n - (j.L.length + 1)) = n by omega]
  have hout : ∀ n, j.low ≤ n → n ≤ j.L.length → slot j.ring j.per n ∉ frees j.ring j.per (j.L.length + 1) (j.ring * j.per - (j.L.length + 1 - j.low)) := by
    intro n a b hm
    obtain ⟨k, hk, e⟩ := List.mem_map.1 hm
    rw [List.mem_range] at hk
    exact slot_ne (lo := j.low) hlo.1 (by omega) (by omega) (by omega) (by omega) (by omega) e
  have hlow : ∀ q, q < 2 → q ∉ frees j.ring j.per (j.L.length + 1) (j.ring * j.per - (j.L.length + 1 - j.low)) := by
    intro q hq hm
    obtain ⟨k, hk, e⟩ := List.mem_map.1 hm
    have := slot_ge j.ring j.per (j.L.length + 1 + k)
    omega
  refine inUse_sync hok hsafe (by show _ ≤ (m.puts' _ _).dur.length; rw [DM.puts'_dur]; exact hroom) ?_ ?_ (fun n a b => ?_) (fun q a b => ?_)
  · rw [DM.put_read, if_neg (by omega), DM.puts'_out _ _ _ _ (hlow 0 (by omega))]; exact h0
  · rw [DM.put_read, if_pos rfl]
  · rw [DM.put_read, if_neg (by have := slot_ge j.ring j.per n; omega), DM.puts'_out _ _ _ _ (hout n a b)]; exact hl n a b
  · rw [DM.put_read, if_neg (by omega)]
    obtain ⟨n, a', b', rfl⟩ := slot_onto (ring := j.ring) (per := j.per) hlo.1 a b
    by_cases hn : n ≤ j.L.length
    · rw [DM.puts'_out _ _ _ _ (hout n a' hn), hl n a' hn]
      exact JM.rec_sec hok n hn _ hn
    · rw [DM.puts'_in _ _ _ _ (hin n (by omega) b')]
      exact blank_sec _ (Nat.zero_le _)

/-- The same disk, by what is read of it. -/
theorem Found.same {j : JM} {m m' : DM} (h : Found j m) (hlen : m'.dur.length = m.dur.length) (hr : ∀ q, q < m.dur.length → m'.read q = m.read q) : Found j m' := by
  have hp := h.ok.pos
  have hroom := h.room
  have hsl := fun n => slot_lt j.ring j.per n (by omega)
  refine ⟨h.ok, by rw [hlen]; exact h.room, (hr 0 (by omega)).trans h.shape, (hr 1 (by omega)).trans h.state, fun n a b => (hr _ (by have := hsl n; omega)).trans (h.live n a b), fun a => ?_⟩
  rw [hr _ (by have := hsl (j.L.length + 1); omega)]
  exact h.rest a

/-- Which journal a disk tells of. -/
theorem shape_ne {r p r' p' : Nat} (hr : r < 256) (hp : p < 256) (hr' : r' < 256) (hp' : p' < 256) (h : r ≠ r' ∨ p ≠ p') (t t' : ByteArray) : packB r p t ≠ packB r' p' t' := by
  intro e
  have e1 : packL r p t.data.toList = packL r' p' t'.data.toList := by rw [← packB_list, ← packB_list, e]
  have h0 := congrArg (fun l => l[0]?) e1
  have h8 := congrArg (fun l => l[8]?) e1
  simp [packL, numB] at h0 h8
  have h0' := congrArg UInt8.toNat h0
  have h8' := congrArg UInt8.toNat h8
  simp at h0' h8'
  omega

end Go.Proofs.YthbmmbgkchiajaaGreat
