
/- A journal in use, in memory; its calls, by what they do to it. -/
import Derived.Test.YthbmmbgkchiajaaGreatJOps
namespace Go.Proofs.YthbmmbgkchiajaaGreat
open Go.RowKit

theorem InUse.fewPuts {j : JM} {m : DM} (h : InUse j m) : (m.puts.length + 101) * 72 ≤ 140737488355328 := by
  have h1 := h.ok.span
  have h2 := h.safe
  have h3 := h.ok.pos
  have h4 := h.putsLen
  have h5 : m.puts.length + 101 ≤ 198 := by omega
  exact Nat.le_trans (Nat.mul_le_mul_right 72 h5) (by omega)

def JUse (S : Nat → Prop) (w : World) (pj pd : Nat) (j : JM) (m : DM) : Prop := JD S w pj pd j.ring j.per j.low (j.L.length + 1) j.safe j.epoch j.note m ∧ InUse j m ∧ m.ok

theorem JUse.mono {S T : Nat → Prop} {w : World} {pj pd : Nat} {j : JM} {m : DM} (h : JUse S w pj pd j m) (hs : ∀ k, k < w.heap.size → S k → T k) : JUse T w pj pd j m := ⟨h.1.mono hs, h.2⟩
theorem JUse.keep {S T : Nat → Prop} {w w' : World} {pj pd : Nat} {j : JM} {m : DM} (h : JUse S w pj pd j m) (hk : Keeps T w w') (hd : ∀ k, k < w.heap.size → S k → ¬ T k) : JUse S w' pj pd j m := ⟨h.1.keep hk hd, h.2⟩
theorem JUse.at {S : Nat → Prop} {w : World} {pj pd : Nat} {j : JM} {m : DM} (h : JUse S w pj pd j m) : ∃ vn, JAt w pj pd j.ring j.per j.low (j.L.length + 1) j.safe j.epoch vn := by
  obtain ⟨vn, h, _⟩ := h.1.at
  exact ⟨vn, h⟩

/-- Is there no room? -/
def JM.full (j : JM) : Prop := (j.low - 1) / j.per + j.ring ≤ j.L.length / j.per
instance (j : JM) : Decidable j.full := by unfold JM.full; infer_instance

theorem use_append_full (S : Nat → Prop) (pj pd n cap : Nat) (ao : Option Addr) (j : JM) (m : DM) (w : World) (h : JUse S w pj pd j m) (hn : n ≤ 40) (hf : j.full) :
    Calls Tryz.prog 186 #[.pointer (some ⟨pj, 0, none⟩), .slice ao n cap] w fun e w' => e = .returned (.tuple #[.int .i64 0, .int .i64 2]) ∧ Keeps (fun _ => False) w w' := by
  have h1 := h.2.1.ok.low
  have h2 := h.2.1.ok.few
  exact append_full S pj pd j.ring j.per j.low (j.L.length + 1) j.safe j.epoch n cap ao j.note m w h.1 hn ⟨by have := h.2.1.ok.per; omega, h.2.1.ok.per.2⟩ h.2.1.ok.ring.2 h1.1 (by omega) (by omega) (by omega) (by rw [Nat.add_sub_cancel]; exact hf)

theorem use_append_yes (S T : Nat → Prop) (pj pd cap : Nat) (ao : Option Addr) (s : ByteArray) (j : JM) (m : DM) (w : World) (h : JUse S w pj pd j m) (hs : s.size ≤ 40) (hv : Bytes T w (.slice ao s.size cap) s) (hf : ¬ j.full) (hfew : j.L.length + 1 < 2305843009213693952) :
    Calls Tryz.prog 186 #[.pointer (some ⟨pj, 0, none⟩), .slice ao s.size cap] w fun e w' => e = .returned (.tuple #[.int .i64 ((j.L.length + 1 : Nat) : Int), .int .i64 0]) ∧ JUse (fun k => S k ∨ w.heap.size ≤ k) w' pj pd { j with L := j.L ++ [s] } (m.put (slot j.ring j.per (j.L.length + 1)) (packB (j.L.length + 1) 0 s)) ∧ Keeps S w w' := by
  have h1 := h.2.1.ok.low
  have h2 := h.2.1.ok.few
  have h3 := h.2.1.ok.pos
  have h4 := h.2.1.room
  have h5 := slot_lt j.ring j.per (j.L.length + 1) (by omega)
  have hf' : j.L.length / j.per < (j.low - 1) / j.per + j.ring := by unfold JM.full at hf; omega
  refine (append_yes S T pj pd j.ring j.per j.low (j.L.length + 1) j.safe j.epoch cap ao s j.note m w h.1 h.2.2 (seven_le _ 1 _ h.2.1.fewPuts (by omega)) hs hv ⟨by have := h.2.1.ok.per; omega, h.2.1.ok.per.2⟩ h.2.1.ok.ring.2 ⟨by omega, h3.2⟩ h4 h1.1 (by omega) (by omega) (by omega) (by rw [Nat.add_sub_cancel]; exact hf')).mono ?_
  rintro e w' ⟨e1, e2, e3⟩
  refine ⟨e1, ⟨?_, h.2.1.append hs hf' hfew, DM.put_ok h.2.2 (by omega) (packB_size _ _ _ (by omega))⟩, e3⟩
  have e : ({ j with L := j.L ++ [s] } : JM).L.length = j.L.length + 1 := by simp
  rw [e]
  exact e2

theorem use_force_new (S : Nat → Prop) (pj pd n : Nat) (j : JM) (m : DM) (w : World) (h : JUse S w pj pd j m) (hy : m.syncs < 9223372036854775807) (hn : n ≤ j.L.length) (hd : j.safe < n) :
    Calls Tryz.prog 187 #[.pointer (some ⟨pj, 0, none⟩), .int .i64 (n : Int)] w fun e w' => e = .returned (.int .i64 0) ∧ JUse S w' pj pd { j with safe := j.L.length } m.sync ∧ Keeps S w w' := by
  have h2 := h.2.1.ok.few
  refine (force_new S pj pd j.ring j.per j.low (j.L.length + 1) j.safe j.epoch n j.note m w h.1 h.2.2 (seven_le0 _ _ h.2.1.fewPuts) hy (by omega) hd (by omega)).mono ?_
  rintro e w' ⟨e1, e2, e3⟩
  rw [Nat.add_sub_cancel] at e2
  exact ⟨e1, ⟨e2, h.2.1.force, DM.sync_ok h.2.2⟩, e3⟩

theorem use_force_old (S : Nat → Prop) (pj pd n : Nat) (j : JM) (m : DM) (w : World) (h : JUse S w pj pd j m) (hn : n ≤ j.L.length) (hd : n ≤ j.safe) :
    Calls Tryz.prog 187 #[.pointer (some ⟨pj, 0, none⟩), .int .i64 (n : Int)] w fun e w' => e = .returned (.int .i64 0) ∧ w' = w :=
  force_old S pj pd j.ring j.per j.low (j.L.length + 1) j.safe j.epoch n j.note m w h.1 (by omega) hd

theorem use_truncate (S T : Nat → Prop) (pj pd cap x : Nat) (ao : Option Addr) (s : ByteArray) (j : JM) (m : DM) (w : World) (h : JUse S w pj pd j m) (hy : m.syncs < 9223372036854775807) (hx0 : j.low ≤ x) (hx1 : x ≤ j.L.length + 1) (hs : s.size ≤ 40) (hv : Bytes T w (.slice ao s.size cap) s) (hT : ¬ T pj) :
    Calls Tryz.prog 200 #[.pointer (some ⟨pj, 0, none⟩), .int .i64 (x : Int), .slice ao s.size cap] w fun e w' => e = .returned (.int .i64 0) ∧ JUse (fun k => S k ∨ w.heap.size ≤ k) w' pj pd { j with low := x, note := s, safe := j.L.length } ((m.put 1 (packB x j.epoch s)).sync) ∧ Keeps S w w' := by
  have h1 := h.2.1.ok.low
  have h2 := h.2.1.ok.few
  have h4 := h.2.1.room
  refine (truncate_yes S T pj pd j.ring j.per j.low (j.L.length + 1) j.safe j.epoch cap x ao s j.note m w h.1 h.2.2 (seven_le _ 1 _ h.2.1.fewPuts (by omega)) hy hx0 hx1 hs hv hT h1.1 (by omega) (by omega) (by omega)).mono ?_
  rintro e w' ⟨e1, e2, e3⟩
  rw [Nat.add_sub_cancel] at e2
  exact ⟨e1, ⟨e2, h.2.1.truncate hx0 hx1 hs, DM.sync_ok (DM.put_ok h.2.2 (by omega) (packB_size _ _ _ (by omega)))⟩, e3⟩

theorem use_read (S : Nat → Prop) (pj pd n : Nat) (j : JM) (m : DM) (w : World) (h : JUse S w pj pd j m) (h0 : j.low ≤ n) (hn : n ≤ j.L.length) :
    Calls Tryz.prog 202 #[.pointer (some ⟨pj, 0, none⟩), .int .i64 (n : Int)] w fun e w' => ∃ g cs, e = .returned (.tuple #[.slice (some ⟨g, 17, none⟩) (j.L.getD (n - 1) ByteArray.empty).size 47, .int .i64 0]) ∧ w.heap.size ≤ g ∧ w'.heap[g]? = some (.cells cs 305 (0, 0)) ∧ cs.size = 64 ∧ Bytes (fun k => w.heap.size ≤ k) w' (.slice (some ⟨g, 17, none⟩) (j.L.getD (n - 1) ByteArray.empty).size 47) (j.L.getD (n - 1) ByteArray.empty) ∧ Keeps (fun _ => False) w w' := by
  have h1 := h.2.1.ok.low
  have h2 := h.2.1.ok.few
  have h3 := h.2.1.ok.pos
  have hsz : (j.L.getD (n - 1) ByteArray.empty).size ≤ 40 := by
    rw [List.getD_eq_getElem?_getD, List.getElem?_eq_getElem (by omega)]
    exact h.2.1.ok.sizes _ (List.getElem_mem _)
  refine (read_yes S pj pd j.ring j.per j.low (j.L.length + 1) j.safe j.epoch n n 0 _ j.note m w h.1 h.2.2 (seven_le0 _ _ h.2.1.fewPuts) ⟨by omega, h3.2⟩ h.2.1.room (by omega) h0 (by omega) (by omega) (h.2.1.read_live h0 hn) hsz (by omega) (by omega)).mono ?_
  rintro e w' ⟨g, e1, e2, e3, e4⟩
  exact ⟨g, _, e1, e2, e3, by rw [List.size_toArray, bcells_length]; exact packB_size _ _ _ (by omega), Bytes.row e3 e2 rfl (by omega) (sec_parts hsz e3).2.2.2, e4⟩

theorem use_open (S : Nat → Prop) (pd : Nat) (j : JM) (m : DM) (w : World) (hD : PDisk S w pd m) (hm : m.ok) (hN : (m.puts.length + 101) * 72 ≤ 140737488355328) (hy : m.syncs < 9223372036854775807) (hF : Found j m) (he : j.epoch + 1 < 2305843009213693952) :
    Calls Tryz.prog 182 #[.pointer (some ⟨pd, 0, none⟩), .int .i64 (j.ring : Int), .int .i64 (j.per : Int)] w fun e w' => ∃ pj, e = .returned (.tuple #[.pointer (some ⟨pj, 0, none⟩), .int .i64 0]) ∧ w.heap.size ≤ pj ∧ JUse (fun k => S k ∨ w.heap.size ≤ k) w' pj pd { j with safe := j.L.length, epoch := j.epoch + 1 } (openedDM j m) ∧ Keeps S w w' := by
  have h3 := hF.ok.pos
  have h4 := hF.room
  have h5 := hF.ok.note
  refine (open_yes S pd j m w hD hm hN hy hF).mono ?_
  rintro e w' ⟨pj, e1, e2, e3, e4⟩
  refine ⟨pj, e1, e2, ⟨e3, ?_, ?_⟩, e4⟩
  · exact inUse_begin (j := { j with safe := j.L.length, epoch := j.epoch + 1 }) ⟨hF.ok.ring, hF.ok.per, hF.ok.low, hF.ok.win, hF.ok.sizes, hF.ok.note, ⟨hF.ok.few.1, he⟩⟩ rfl hF.room hF.shape hF.live
  · refine DM.sync_ok (DM.put_ok (DM.puts'_ok blank_size _ hm (fun i hi => by have := frees_lt _ _ _ _ (by omega) i hi; omega)) ?_ (packB_size _ _ _ (by omega)))
    rw [DM.puts'_dur]; omega

def newJM (ring per : Nat) : JM := ⟨ring, per, [], 1, 0, 1, ByteArray.empty⟩
theorem use_create (S : Nat → Prop) (pd ring per : Nat) (m : DM) (w : World) (hD : PDisk S w pd m) (hm : m.ok) (hN : (m.puts.length + 101) * 72 ≤ 140737488355328) (hy : m.syncs < 9223372036854775807) (hr : 2 ≤ ring ∧ ring ≤ 6) (hp : 2 ≤ per ∧ per ≤ 16) (hroom : ring * per + 2 ≤ m.dur.length) :
    Calls Tryz.prog 149 #[.pointer (some ⟨pd, 0, none⟩), .int .i64 (ring : Int), .int .i64 (per : Int)] w fun e w' => ∃ pj, e = .returned (.tuple #[.pointer (some ⟨pj, 0, none⟩), .int .i64 0]) ∧ w.heap.size ≤ pj ∧ JUse (fun k => S k ∨ w.heap.size ≤ k) w' pj pd (newJM ring per) (createdDM ring per m) ∧ Keeps S w w' := by
  have hC : 4 ≤ ring * per ∧ ring * per ≤ 96 := ⟨Nat.mul_le_mul hr.1 hp.1, Nat.mul_le_mul hr.2 hp.2⟩
  have hsz : (packB ring per nameB).size = 64 := packB_size _ _ _ (by decide)
  refine (create_yes S pd ring per m w hD hm hN hy hr hp hroom).mono ?_
  rintro e w' ⟨pj, e1, e2, e3, e4⟩
  refine ⟨pj, e1, e2, ⟨e3, ?_, ?_⟩, e4⟩
  · refine inUse_begin (j := newJM ring per) (m := m.put 0 (packB ring per nameB)) ⟨hr, hp, ⟨Nat.le_refl _, Nat.le_refl _⟩, Nat.zero_le _, (fun s hs => by cases hs), Nat.zero_le _, ⟨by show 0 < 2305843009213693952; omega, by show 1 < 2305843009213693952; omega⟩⟩ rfl hroom ?_ ?_
    · rw [DM.put_read, if_pos rfl]; rfl
    · intro n a b
      have a' : 1 ≤ n := a
      have b' : n ≤ 0 := b
      omega
  · refine DM.sync_ok (DM.put_ok (DM.puts'_ok blank_size _ (DM.put_ok hm (by omega) hsz) (fun i hi => ?_)) ?_ (packB_size _ _ _ (by simp)))
    · have := frees_lt ring per 1 _ (by omega) i hi
      show i < m.dur.length
      omega
    · rw [DM.puts'_dur]; show 1 < m.dur.length; omega
theorem openedDM_syncs (j : JM) (m : DM) : (openedDM j m).syncs = m.syncs + 1 := by
  unfold openedDM DM.sync
  show ((m.puts' _ _).syncs + 1) = _
  rw [DM.puts'_syncs]
theorem createdDM_syncs (ring per : Nat) (m : DM) : (createdDM ring per m).syncs = m.syncs + 1 := by
  unfold createdDM DM.sync
  show (((m.put 0 _).puts' _ _).syncs + 1) = _
  rw [DM.puts'_syncs]; rfl
theorem openedDM_len (j : JM) (m : DM) : (openedDM j m).dur.length = m.dur.length := by
  unfold openedDM
  rw [DM.sync_len]
  show (m.puts' _ _).dur.length = _
  rw [DM.puts'_dur]
theorem createdDM_len (ring per : Nat) (m : DM) : (createdDM ring per m).dur.length = m.dur.length := by
  unfold createdDM
  rw [DM.sync_len]
  show ((m.put 0 _).puts' _ _).dur.length = _
  rw [DM.puts'_dur]; rfl

/-- []byte(s) -/
def bsOf (x : Value) : Sem Value := convert 9 138 x
theorem bsOf_eq (x : Value) : convert 9 138 x = bsOf x := rfl
theorem run_bsOf (W : World) (s : ByteArray) : ∃ cap W', (bsOf (.string s)).run Tryz.prog W = .ok (.slice (some ⟨W.heap.size, 0, none⟩) s.size cap) W' ∧ Hid (Bytes (fun k => W.heap.size ≤ k) W' (.slice (some ⟨W.heap.size, 0, none⟩) s.size cap) s ∧ Keeps (fun _ => False) W W') := by
  have h := run_bytes_of_string (P := Tryz.prog) W 9 138 5 s Tryz.underlying9 Tryz.underlying138 Tryz.underlying5
  refine ⟨_, _, h, hide ⟨?_, ((Keeps.refl _ W).drew).alloc _⟩⟩
  refine Bytes.row (heap_alloc_last W.drew _) (Nat.le_refl _) rfl (grownCap_ge _ _ _ _) (fun j hj => ?_)
  have hj' : j < s.data.size := by rw [bcells_length] at hj; exact hj
  rw [Nat.zero_add, bytesRow_at s _ j hj']
  unfold bcells
  rw [List.getElem?_map, List.getElem?_eq_getElem (by simpa using hj')]
  simp

end Go.Proofs.YthbmmbgkchiajaaGreat
