
/- A disk's bytes on another disk: copied, moved. -/
import Derived.Test.YthbmmbgkchiajaaGreatQState
namespace Go.Proofs.YthbmmbgkchiajaaGreat
open Go.RowKit

/-- A disk that holds these sectors, synced once. -/
def putAll : List ByteArray → Nat → DM → DM
  | [], _, m => m
  | s :: l, i, m => putAll l (i + 1) (m.put i s)
def copyDM (l : List ByteArray) : DM := (putAll l 0 (freshDM l.length)).sync

theorem putAll_dur : ∀ (l : List ByteArray) (i : Nat) (m : DM), (putAll l i m).dur = m.dur
  | [], _, _ => rfl
  | s :: l, i, m => (putAll_dur l (i + 1) (m.put i s)).trans rfl
theorem putAll_syncs : ∀ (l : List ByteArray) (i : Nat) (m : DM), (putAll l i m).syncs = m.syncs
  | [], _, _ => rfl
  | s :: l, i, m => (putAll_syncs l (i + 1) (m.put i s)).trans rfl
theorem putAll_len : ∀ (l : List ByteArray) (i : Nat) (m : DM), (putAll l i m).puts.length = m.puts.length + l.length
  | [], _, _ => rfl
  | s :: l, i, m => by
    show (putAll l (i + 1) (m.put i s)).puts.length = _
    rw [putAll_len l (i + 1) (m.put i s)]
    simp [DM.put]; omega
theorem putAll_snoc : ∀ (l : List ByteArray) (s : ByteArray) (i : Nat) (m : DM), putAll (l ++ [s]) i m = (putAll l i m).put (i + l.length) s
  | [], _, _, _ => rfl
  | a :: l, s, i, m => by
    show putAll (l ++ [s]) (i + 1) (m.put i a) = _
    rw [putAll_snoc l s (i + 1) (m.put i a), List.length_cons, show i + 1 + l.length = i + (l.length + 1) by omega]
    rfl
theorem putAll_read : ∀ (l : List ByteArray) (i q : Nat) (m : DM), (putAll l i m).read q = if i ≤ q ∧ q < i + l.length then l.getD (q - i) ByteArray.empty else m.read q
  | [], i, q, m => by rw [if_neg (by simp)]; rfl
  | a :: l, i, q, m => by
    show (putAll l (i + 1) (m.put i a)).read q = _
    rw [putAll_read l (i + 1) q (m.put i a), DM.put_read, List.length_cons]
    by_cases h : i + 1 ≤ q ∧ q < i + 1 + l.length
    · rw [if_pos h, if_pos (by omega), show q - i = (q - (i + 1)) + 1 by omega, List.getD_cons_succ]
    · rw [if_neg h]
      by_cases e : i = q
      · subst e
        rw [if_pos rfl, if_pos (by omega), Nat.sub_self]; rfl
      · rw [if_neg e, if_neg (by omega)]
theorem putAll_ok : ∀ (l : List ByteArray) (i : Nat) (m : DM), m.ok → (∀ s ∈ l, s.size = 64) → i + l.length ≤ m.dur.length → (putAll l i m).ok
  | [], _, _, h, _, _ => h
  | s :: l, i, m, h, hs, hl => putAll_ok l (i + 1) (m.put i s) (DM.put_ok h (by simp at hl; omega) (hs s (by simp))) (fun x hx => hs x (by simp [hx])) (by simp at hl; show i + 1 + l.length ≤ m.dur.length; omega)
theorem copyDM_read (l : List ByteArray) (q : Nat) (hq : q < l.length) : (copyDM l).read q = l.getD q ByteArray.empty := by
  unfold copyDM
  rw [DM.sync_read _ _ (by rw [putAll_dur]; simpa [freshDM] using hq), putAll_read, if_pos (by omega), Nat.sub_zero]
theorem copyDM_len (l : List ByteArray) : (copyDM l).dur.length = l.length := by
  unfold copyDM
  rw [DM.sync_len, putAll_dur]; simp [freshDM]
theorem copyDM_ok (l : List ByteArray) (hl : 1 ≤ l.length) (hl' : l.length ≤ 128) (hs : ∀ s ∈ l, s.size = 64) : (copyDM l).ok :=
  DM.sync_ok (putAll_ok l 0 _ (freshDM_ok _ hl hl') hs (by simp [freshDM]))

/-- The sectors of a disk, as they are read. -/
def DM.image (m : DM) : List ByteArray := (List.range m.dur.length).map m.read
theorem image_len (m : DM) : m.image.length = m.dur.length := by simp [DM.image]
theorem image_get (m : DM) (q : Nat) (hq : q < m.dur.length) : m.image.getD q ByteArray.empty = m.read q := by
  unfold DM.image
  rw [List.getD_eq_getElem?_getD, List.getElem?_map, List.getElem?_range hq]; rfl
theorem image_size (m : DM) (hm : m.ok) : ∀ s ∈ m.image, s.size = 64 := by
  intro s hs
  obtain ⟨q, hq, rfl⟩ := List.mem_map.1 hs
  exact DM.read_size hm (List.mem_range.1 hq)
theorem image_found {j : JM} {m : DM} (h : Found j m) : Found j (copyDM m.image) :=
  h.same (by rw [copyDM_len, image_len]) (fun q hq => by rw [copyDM_read _ _ (by rw [image_len]; exact hq), image_get m q hq])

attribute [local go_sem ↓] bsOf_eq strOf_eq strApp_eq

set_option maxRecDepth 100000 in
set_option maxHeartbeats 1600000 in
theorem copied_any (ao : Option Addr) (cap : Nat) (l : List ByteArray) (w : World) (hl : 1 ≤ l.length) (hl' : l.length ≤ 128) (hs : ∀ s ∈ l, s.size = 64) (hc : ∀ q s, l[q]? = some s → ∃ g, ao = some ⟨g, 0, none⟩ ∧ g < w.heap.size ∧ w.cell? ⟨g, q, none⟩ = some (.string s)) (_hcap : l.length ≤ cap) :
    Calls Tryz.prog 185 #[.slice ao l.length cap] w fun e w' => ∃ d, e = .returned (.tuple #[.pointer (some ⟨d, 0, none⟩), .bool true]) ∧ PDisk (fun k => w.heap.size ≤ k) w' d (copyDM l) ∧ Keeps (fun _ => False) w w' := by
  have HC := hide hc
  have HS := hide hs
  clear hc hs
  go_enter Tryz.func185, Tryz.ntmps185
  go_wp2_with fail
  go_at_call 119
  refine (dNew_yes l.length w hl hl').mono ?_
  rintro e w1 ⟨d, rfl, hd1, hk1⟩
  have HR0 : Hid (PDisk (fun k => w.heap.size ≤ k) w1 d (putAll (l.take 0) 0 (freshDM l.length)) ∧ Keeps (fun _ => False) w w1) := hide ⟨hd1, hk1⟩
  clear hd1 hk1
  go_wp2
  go_loopw [6] (fun i wr => ∃ q : Nat, q ≤ l.length ∧ i = .int .i64 q ∧ Hid (PDisk (fun k => w.heap.size ≤ k) wr d (putAll (l.take q) 0 (freshDM l.length)) ∧ Keeps (fun _ => False) w wr)) (fun i _ => l.length - (intOf i).toNat)
  case atStart => exact ⟨0, Nat.zero_le _, rfl, HR0⟩
  case round =>
    obtain ⟨q, hq, rfl, HR⟩ := hrel
    have hok : (putAll (l.take q) 0 (freshDM l.length)).ok := putAll_ok _ 0 _ (freshDM_ok _ hl hl') (fun s hs => unhide HS s (List.mem_of_mem_take hs)) (by simp [freshDM]; omega)
    have hpl : (putAll (l.take q) 0 (freshDM l.length)).puts.length ≤ 128 := by rw [putAll_len]; simp [freshDM]; omega
    by_cases hlt : q < l.length
    · obtain ⟨s, hsq⟩ : ∃ s, l[q]? = some s := ⟨_, List.getElem?_eq_getElem hlt⟩
      obtain ⟨g, rfl, hgl, hcell⟩ := unhide HC q s hsq
      have hcw := ((unhide HR).2.cell (p := ⟨g, q, none⟩) hgl (fun f => f)).trans hcell
      have h64 := unhide HS s (List.mem_of_getElem? hsq)
      obtain ⟨cp, W2, hbs, HB⟩ := run_bsOf wr s
      obtain ⟨hb2, hk2⟩ := unhide HB
      have hd2 : PDisk (fun k => w.heap.size ≤ k ∧ k < wr.heap.size) W2 d (putAll (l.take q) 0 (freshDM l.length)) := Two.keep (Two.mono (unhide HR).1 (fun k l d => ⟨d, l⟩)) hk2 (fun _ _ _ f => f)
      obtain ⟨ao3, cap3, e3, hc3, _, h3⟩ := hb2
      rw [h64] at e3 hc3 hbs
      simp only [Value.slice.injEq] at e3
      obtain ⟨rfl, _, rfl⟩ := e3
      obtain ⟨g3, o3, e4, hg3, hS3, hr3⟩ := h3 _ rfl
      cases e4
      have HDW := hide (dWrite_yes _ d _ q wr.heap.size cp s W2 hd2 hok (by rw [putAll_dur]; simpa [freshDM] using hlt) h64 (Nat.le_trans (Nat.mul_le_mul_right 72 (show _ + 1 ≤ 129 by omega)) (by omega)) hr3 hg3 (fun h => by omega) hc3)
      have b0 : (0 : Int) ≤ (q : Int) := Int.natCast_nonneg _
      have b1 : (q : Int) < (l.length : Int) := by omega
      have HK2 := hide hk2
      have hs2 := hk2.size
      have hsr := (unhide HR).2.size
      have HSQ := hide hsq
      clear hd2 hr3 hcell hk2 HB h3 hok hpl hsq h64
      go_wp2_with fail
      go_at_call 190
      refine (unhide HDW).mono ?_
      rintro e w3 ⟨rfl, hd3, hk3⟩
      have HN : Hid (PDisk (fun k => w.heap.size ≤ k) w3 d (putAll (l.take (q + 1)) 0 (freshDM l.length)) ∧ Keeps (fun _ => False) w w3) := by
        refine hide ⟨?_, ((unhide HR).2.trans (unhide HK2) (fun _ _ f => f)).trans hk3 (fun k hk h => by omega)⟩
        have e1 : l.take (q + 1) = l.take q ++ [s] := by rw [List.take_add_one, unhide HSQ]; rfl
        rw [e1, putAll_snoc, List.length_take, Nat.min_eq_left hq, Nat.zero_add]
        exact Two.mono hd3 (fun k _ h => by rcases h with h | h; (exact h.1); omega)
      clear hd3 hk3
      go_wp2
      go_roundw
      case rel => exact ⟨q + 1, by omega, by go_num, HN⟩
      case measure => simp [intOf]; omega
    · have hqn : q = l.length := by omega
      have HD := hide (dSync_any _ d _ wr (unhide HR).1 hok (Nat.le_trans (Nat.mul_le_mul_right 72 hpl) (by omega)) (by rw [putAll_syncs]; show 0 < _; omega))
      have HQ := hide hqn
      clear hok hpl hqn
      go_wp2_with fail
      go_at_call 195
      refine (unhide HD).mono ?_
      rintro e w3 ⟨rfl, hd3, hk3⟩
      have HD3 := hide hd3
      have HK3 := hide hk3
      clear hd3 hk3
      go_wp2
      go_ret2
      refine ⟨d, rfl, ?_, (unhide HR).2.trans (unhide HK3) (fun k hk h => by have h' : w.heap.size ≤ k := h; omega)⟩
      have := unhide HD3
      rw [unhide HQ, List.take_length] at this
      exact this

end Go.Proofs.YthbmmbgkchiajaaGreat
