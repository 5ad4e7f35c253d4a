
/- moved: a disk's bytes on another disk, a trial on a third. -/
import Derived.Test.YthbmmbgkchiajaaGreatQMove
namespace Go.Proofs.YthbmmbgkchiajaaGreat
open Go.RowKit

theorem str_run2 {S : Nat → Prop} {X : World} {n : Nat} {vl x : Value} {xs : List Value} (hown : Own S X 9 1 vl n xs) (hn : (n + 1) * 16 ≤ 140737488355328) (hx : x.oneCell' = true) :
    ∃ q c w1, (strApp #[vl, .slice (some ⟨X.heap.size, 0, none⟩) 1 1]).run Tryz.prog (X.alloc (.cells #[x] 9)) = .ok (.slice (some ⟨q, 0, none⟩) (n + 1) c) w1 ∧
      Hid (Own (fun k => S k ∨ X.heap.size ≤ k) w1 9 1 (.slice (some ⟨q, 0, none⟩) (n + 1) c) (n + 1) (xs ++ [x]) ∧ Keeps S X w1) := by
  obtain ⟨iB, hiB, hzB0, hzB1, hzB2⟩ := info_parts infoString
  obtain ⟨q, c, w1, r0, r1, r2, r3, _⟩ := run_append_lies (P := Tryz.prog) (X.alloc (.cells #[x] 9)) 233 233 0 9 iB _ 1 16 Tryz.underlying233 hiB hzB0 hzB1 hzB2 rfl (by omega) vl n xs (hown.1.alloc _) ⟨X.heap.size, 0, none⟩ 1 1 [x] rfl
    (World.news_of_block (cs := #[x]) (t := 9) (fr := (0, 0)) (heap_alloc_new X _)) (fun u hu => by rw [List.mem_singleton.1 hu]; exact hx) (by omega) (by unfold maxLen; omega) (by omega) (Nat.zero_le _) (X.heap.size + 1) (by simp)
  have hk1 := keeps_grown ((Keeps.refl _ X).alloc _) r2
  refine ⟨q, c, w1, r0, hide ⟨⟨r1, fun k hk => ?_⟩, hk1.mono (fun k _ e => hown.2 k e)⟩⟩
  simp only [Value.ownBlock, Option.some.injEq] at hk
  subst hk
  rcases r3 with h | h
  · exact .inl (hown.2 _ h)
  · exact .inr (by omega)

theorem row_strs {S : Nat → Prop} {w : World} {vl : Value} {l : List ByteArray} (h : Own S w 9 1 vl l.length (l.map Value.string)) (hl : 1 ≤ l.length) :
    ∃ g cap, vl = .slice (some ⟨g, 0, none⟩) l.length cap ∧ l.length ≤ cap ∧ S g ∧ g < w.heap.size ∧ ∀ q s, l[q]? = some s → w.cell? ⟨g, q, none⟩ = some (.string s) := by
  obtain ⟨g, cap, e, hc, hS, hg, hx, _⟩ := h.open hl
  exact ⟨g, cap, e, hc, hS, hg, fun q s hq => hx q _ (by rw [List.getElem?_map, hq]; rfl)⟩

def trialB : ByteArray := ⟨#[116, 114, 105, 97, 108]⟩
theorem trial_cells : bcells trialB = [.int .u8 116, .int .u8 114, .int .u8 105, .int .u8 97, .int .u8 108] := rfl

theorem copyDM_puts (l : List ByteArray) : (copyDM l).puts = [] := rfl
theorem copyDM_syncs (l : List ByteArray) : (copyDM l).syncs = 1 := by
  show (putAll l 0 (freshDM l.length)).syncs + 1 = 1
  rw [putAll_syncs]; rfl

/-- The volume's disk and journal stand anew. -/
def MovedAt (R : Nat → Prop) (v d' r rj B : Nat) (j : JM) (m m' : DM) (dirty : Bool) (w w7 : World) : Prop :=
  w7.heap[v]? = some (.cells #[.pointer (some ⟨d', 0, none⟩), .pointer (some ⟨r, 0, none⟩), .int .i64 (m.dur.length : Int), .pointer none, .pointer (some ⟨rj, 0, none⟩), .bool dirty] 187 (0, 0)) ∧ RJ (fun k => R k ∧ k < w.heap.size) w7 rj j ∧ PDisk (fun k => B ≤ k) w7 d' m' ∧ Keeps (fun k => k = v) w w7
theorem moved_mid {R : Nat → Prop} {v d r d' rj B : Nat} {vj : Option Addr} {j : JM} {m m' : DM} {dirty : Bool} {w w5 : World} (hNRv : ¬ R v) (hvl : v < w.heap.size) (hB : w.heap.size ≤ B)
    (hv : w5.heap[v]? = some (.cells #[.pointer (some ⟨d, 0, none⟩), .pointer (some ⟨r, 0, none⟩), .int .i64 (m.dur.length : Int), .pointer vj, .pointer (some ⟨rj, 0, none⟩), .bool dirty] 187 (0, 0))) (hr : RJ (fun k => R k ∧ k < w.heap.size) w5 rj j)
    (hd : PDisk (fun k => B ≤ k) w5 d' m') (hk : Keeps (fun _ => False) w w5) : MovedAt R v d' r rj B j m m' dirty w ((w5.setCell ⟨v, 0, none⟩ (.pointer (some ⟨d', 0, none⟩))).setCell ⟨v, 3, none⟩ (.pointer none)) := by
  have hv2 := heap_setCell_same (o := 3) (heap_setCell_same (o := 0) hv (.pointer (some ⟨d', 0, none⟩))) (.pointer none)
  have hkv : Keeps (fun k => k = v) w5 ((w5.setCell ⟨v, 0, none⟩ (.pointer (some ⟨d', 0, none⟩))).setCell ⟨v, 3, none⟩ (.pointer none)) := ((Keeps.refl (fun k => k = v) w5).setCell (p := ⟨v, 0, none⟩) (.inl rfl) _).setCell (p := ⟨v, 3, none⟩) (.inl rfl) _
  exact ⟨hv2, hr.keep hkv (fun k _ q e => hNRv (e ▸ q.1)), Two.keep hd hkv (fun k _ q e => by have q' : B ≤ k := q; omega), (hk.mono (T := fun k => k = v) (fun _ _ f => f.elim)).trans hkv (fun _ _ e => e)⟩
theorem MovedAt.drewN {R : Nat → Prop} {v d' r rj B : Nat} {j : JM} {m m' : DM} {dirty : Bool} {w w7 : World} (h : MovedAt R v d' r rj B j m m' dirty w w7) (n : Nat) : MovedAt R v d' r rj B j m m' dirty w (w7.drewN n) := by
  have hk : Keeps (fun _ => False) w7 (w7.drewN n) := (Keeps.refl _ w7).drewN n
  exact ⟨hk.heap h.1 (fun f => f), h.2.1.keep hk (fun _ _ _ f => f), Two.keep h.2.2.1 hk (fun _ _ _ f => f), h.2.2.2.trans hk (fun _ _ f => f.elim)⟩
theorem QStep.drew {D R : Nat → Prop} {w w' : World} {v : Nat} {x : VM} (h : QStep D R w v x w') : QStep D R w v x w'.drew := by
  obtain ⟨⟨D', R', ⟨h1, h2⟩, h3⟩, h4⟩ := h
  exact ⟨⟨D', R', ⟨h1.keep ((Keeps.refl (fun _ => False) w').drew) (fun f => f) (fun _ _ _ f => f) (fun _ _ _ f => f), h2⟩, h3⟩, h4.drew⟩
theorem moved_end {D R : Nat → Prop} {v r d' rj B : Nat} {j : JM} {m m' : DM} {dirty : Bool} {w w7 : World} (hNRv : ¬ R v) (hvl : v < w.heap.size) (hB : w.heap.size ≤ B) (h : MovedAt R v d' r rj B j m m' dirty w w7)
    (hml : m'.dur.length = m.dur.length) (hF : Found j m') (hok : m'.ok) (hp : m'.puts = []) :
    QStep D R w v (.jour { j with safe := j.L.length } m' false) (w7.setCell ⟨rj, 4, none⟩ (.int .i64 (j.L.length : Int))) := by
  obtain ⟨hv, hr, hd, hk⟩ := h
  have hrp := hr.lt
  obtain ⟨al, cl, hb, ho, _⟩ := hr.cells
  have hne : ¬ v = rj := fun e => hNRv (e ▸ hrp.1.1)
  have hr7 := heap_setCell_same (o := 4) hb (.int .i64 (j.L.length : Int))
  have hkr : Keeps (fun k => k = rj) w7 (w7.setCell ⟨rj, 4, none⟩ (.int .i64 (j.L.length : Int))) := (Keeps.refl (fun k => k = rj) w7).setCell (p := ⟨rj, 4, none⟩) (.inl rfl) _
  generalize w7.setCell ⟨rj, 4, none⟩ (.int .i64 (j.L.length : Int)) = w8 at *
  have hv7 := hkr.heap hv (fun e => hne e)
  refine ⟨⟨fun k => B ≤ k, fun k => R k ∧ k < w.heap.size, ⟨⟨d', r, rj, dirty, .pointer none, by rw [hml]; exact hv7, ⟨_, hr7, hrp.1, ?_⟩, .inr ⟨rfl, rfl, ?_, ?_, hp, hok, rfl⟩⟩, fun k d d' => ?_, fun d => ?_, fun d => hNRv d.1⟩, fun k hk => ⟨fun d => ?_, fun d => d.1⟩⟩, ?_⟩
  · exact ho.keep hkr (fun k _ q e => q.2 e)
  · exact Two.keep hd hkr (fun k _ q e => by have q' : B ≤ k := q; omega)
  · exact ⟨⟨hF.ok.ring, hF.ok.per, hF.ok.low, hF.ok.win, hF.ok.sizes, hF.ok.note, hF.ok.few⟩, hF.room, hF.shape, hF.state, hF.live, hF.rest⟩
  · have q' : B ≤ k := d; omega
  · have q' : B ≤ v := d; omega
  · have q' : B ≤ k := d; omega
  · exact (hk.mono (T := fun k => k = v ∨ D k ∨ R k) (fun _ _ e => .inl e)).trans hkr (fun k _ e => .inr (.inr (e ▸ hrp.1.1)))

attribute [local go_sem ↓] bsOf_eq strOf_eq strApp_eq cvBytes_eq

set_option maxRecDepth 100000 in
set_option maxHeartbeats 1600000 in
theorem moved_any (D R : Nat → Prop) (v : Nat) (j : JM) (m : DM) (use : Bool) (w : World) (h : VolA D R w v (.jour j m use)) (he : j.epoch + 1 < 2305843009213693952) (hfew : j.L.length + 1 < 2305843009213693952) :
    Calls Tryz.prog 124 #[.pointer (some ⟨v, 0, none⟩)] w fun e w' => e = .returned (.bool true) ∧ QStep D R w v (.jour { j with safe := j.L.length } (copyDM m.image) false) w' := by
  obtain ⟨hs0, hDR, hNDv, hNRv⟩ := h
  obtain ⟨d, r, rj, dirty, vj, hv, hrj0, hd, hF, hok, hN⟩ := hs0.jdisk
  have hd0 := Two.mono (T := fun k => D k ∧ k < w.heap.size) hd (fun k l d => ⟨d, l⟩)
  have hrj := hrj0.mono (T := fun k => R k ∧ k < w.heap.size) (fun k l d => ⟨d, l⟩)
  have hlen := hok.len
  have hvl := hs0.lt
  have hil := image_len m
  have hN' : m.puts.length * 72 ≤ 140737488355328 := Nat.le_trans (Nat.mul_le_mul_right 72 (Nat.le_add_right _ 101)) hN
  have hFI := image_found hF
  have hIS := image_size m hok
  have hIok := copyDM_ok m.image (by omega) (by omega) hIS
  have HFA : Hid (∀ X, Keeps (fun _ => False) w X → X.cell? ⟨v, 0, none⟩ = some (.pointer (some ⟨d, 0, none⟩)) ∧ X.cell? ⟨v, 2, none⟩ = some (.int .i64 (m.dur.length : Int)) ∧ X.cell? ⟨v, 4, none⟩ = some (.pointer (some ⟨rj, 0, none⟩))) := hide fun X hX => by
    have q := hX.heap hv (fun f => f)
    exact ⟨cell_of_heap q, cell_of_heap q, cell_of_heap q⟩
  have HRD := hide (fun X (hX : Keeps (fun _ => False) w X) q hq => dRead_yes _ d m q X (Two.keep hd0 hX (fun _ _ _ f => f)) hok hq hN')
  have HV := hide hv
  have HRJ := hide hrj
  have HF := hide hF
  have HFI := hide hFI
  have HIS := hide hIS
  have HIO := hide hIok
  clear hs0 hv hrj0 hd hd0 hrj hF hFI hIS hIok hok hN hN'
  go_enter Tryz.func124, Tryz.ntmps124
  go_wp2
  go_loopw [3, 4] (fun vl i wr => ∃ q : Nat, q ≤ m.dur.length ∧ i = .int .i64 q ∧ Hid (Own (fun k => w.heap.size ≤ k) wr 9 1 vl q ((m.image.take q).map Value.string) ∧ Keeps (fun _ => False) w wr)) (fun _ i _ => m.dur.length - (intOf i).toNat)
  case atStart => exact ⟨0, Nat.zero_le _, rfl, hide ⟨Own.nil _ _ _ _, Keeps.refl _ _⟩⟩
  case round =>
    obtain ⟨q, hq, rfl, HR⟩ := hrel
    obtain ⟨x0, x2, x4⟩ := unhide HFA wr (unhide HR).2
    by_cases hlt : q < m.dur.length
    · have HD := hide (unhide HRD wr (unhide HR).2 q hlt)
      have b0 : (0 : Int) ≤ (q : Int) := Int.natCast_nonneg _
      have b1 : (q : Int) < (m.dur.length : Int) := by omega
      have hsr := (unhide HR).2.size
      go_wp2_with fail
      go_at_call 184
      refine (unhide HD).mono ?_
      rintro e w1 ⟨g, rfl, hg, hb, hk⟩
      have h64 : (m.read q).size = 64 := by
        have := unhide HIS (m.read q) (List.mem_map.2 ⟨q, List.mem_range.2 hlt, rfl⟩); exact this
      have hstr : (strOf (.slice (some ⟨g, 0, none⟩) 64 64)).run Tryz.prog w1 = .ok (.string (m.read q)) w1 := run_strOf (fun _ => True) _ _ _ (h64 ▸ Bytes.row hb trivial rfl (Nat.le_refl _) (fun j _ => by rw [Nat.zero_add]; simp))
      obtain ⟨g2, c2, W2, happ, HA⟩ := str_run2 (x := .string (m.read q)) ((unhide HR).1.keep hk (fun _ _ _ f => f)) (Nat.le_trans (Nat.mul_le_mul_right 16 (show q + 1 ≤ 128 by omega)) (by omega)) rfl
      have HN : Hid (Own (fun k => w.heap.size ≤ k) W2 9 1 (.slice (some ⟨g2, 0, none⟩) (q + 1) c2) (q + 1) ((m.image.take (q + 1)).map Value.string) ∧ Keeps (fun _ => False) w W2) := by
        obtain ⟨a1, a2⟩ := unhide HA
        have hks := hk.size
        refine hide ⟨?_, ((unhide HR).2.trans hk (fun _ _ f => f)).trans a2 (fun k hk h => by have h' : w.heap.size ≤ k := h; omega)⟩
        have e1 : (m.image.take (q + 1)).map Value.string = (m.image.take q).map Value.string ++ [.string (m.read q)] := by
          rw [List.take_add_one]
          have : m.image[q]? = some (m.read q) := by unfold DM.image; rw [List.getElem?_map, List.getElem?_range hlt]; rfl
          rw [this]; simp
        rw [e1]
        exact a1.mono (fun k _ h => by rcases h with h | h; (exact h); (have h' : w1.heap.size ≤ k := h; show w.heap.size ≤ k; omega))
      clear hb hk HA h64
      go_wp2
      go_roundw
      case rel => exact ⟨q + 1, by omega, by go_num, HN⟩
      case measure => simp [intOf]; omega
    · have hqn : q = m.image.length := by omega
      subst hqn
      have hrow := (unhide HR).1
      rw [List.take_length] at hrow
      obtain ⟨g, cap, rfl, hcap, hg, hgl, hcell⟩ := row_strs hrow (by omega)
      have hsr := (unhide HR).2.size
      have HCP : Hid (∀ X, Keeps (fun k => wr.heap.size ≤ k) wr X → Calls Tryz.prog 185 #[.slice (some ⟨g, 0, none⟩) m.dur.length cap] X fun e w' => ∃ d, e = .returned (.tuple #[.pointer (some ⟨d, 0, none⟩), .bool true]) ∧ PDisk (fun k => X.heap.size ≤ k) w' d (copyDM m.image) ∧ Keeps (fun _ => False) X w') := hide fun X hX => by
        have := copied_any (some ⟨g, 0, none⟩) cap m.image X (by omega) (by omega) (unhide HIS) (fun q s hq => ⟨g, rfl, Nat.lt_of_lt_of_le hgl hX.size, (hX.cell (p := ⟨g, q, none⟩) hgl (fun f => by have f' : wr.heap.size ≤ g := f; omega)).trans (hcell q s hq)⟩) hcap
        rw [hil] at this
        exact this
      clear hrow hcell
      go_wp2_with fail
      go_at_call 185
      refine (unhide HCP wr (Keeps.refl _ _)).mono ?_
      rintro e w1 ⟨d1, rfl, hd1, hk1⟩
      have hk01 := (unhide HR).2.trans hk1 (fun _ _ f => f)
      obtain ⟨x0, x2, x4⟩ := unhide HFA w1 hk01
      obtain ⟨al, cl, _, _, y0, y1, y2, y3, y4, y5, y6⟩ := ((unhide HRJ).keep hk01 (fun _ _ _ f => f)).cells
      rename_i hx1 hx2; clear hx1 hx2
      have HO := hide (use_open _ d1 j _ w1.drew (Two.keep hd1 ((Keeps.refl (fun _ => False) w1).drew) (fun _ _ _ f => f)) (unhide HIO) (by rw [copyDM_puts]; show (0 + 101) * 72 ≤ _; omega) (by rw [copyDM_syncs]; omega) (unhide HFI) he)
      have HK1 := hide hk1
      have HK01 := hide hk01
      have hs1 := hk1.size
      clear hk1 hk01 hd1
      go_wp2_with fail
      go_region_held3 (fun w' => w'.cell? ⟨v, 4, none⟩ = some (.pointer (some ⟨rj, 0, none⟩)) ∧ w'.cell? ⟨rj, 0, none⟩ = some (.int .i64 (j.ring : Int)) ∧ w'.cell? ⟨rj, 1, none⟩ = some (.int .i64 (j.per : Int))) (first | exact ⟨x4, y0, y1⟩ | exact ⟨u4, z0, z1⟩) ((go_at_call 182; refine (unhide HO).mono ?_; rintro e w2 ⟨pj, rfl, hpj, hj2, hk2'⟩; have hk2 := hk2'.ofDrew; have hk02 := (unhide HK01).trans hk2 (fun k hk q => by have q' : wr.heap.size ≤ k := q; omega); obtain ⟨u0, u2, u4⟩ := unhide HFA w2 hk02; obtain ⟨al2, cl2, _, _, z0, z1, z2, z3, z4, z5, z6⟩ := ((unhide HRJ).keep hk02 (fun _ _ _ f => f)).cells; have HJ2 := hide hj2; have HK2 := hide hk2; clear hj2 hk2 hk2' hk02))
      obtain ⟨W3, hcv, HW3⟩ := run_cvBytes (w2.alloc (.cells #[.int .u8 116, .int .u8 114, .int .u8 105, .int .u8 97, .int .u8 108] 5)) w2.heap.size 5 5 #[.int .u8 116, .int .u8 114, .int .u8 105, .int .u8 97, .int .u8 108] 5 (heap_alloc_last w2 _)
      have hk3 : Keeps (fun _ => False) w2 W3 := ((((Keeps.refl (fun _ => False) w2).alloc (.cells #[.int .u8 116, .int .u8 114, .int .u8 105, .int .u8 97, .int .u8 108] 5)).mono (T := fun k => k = w2.heap.size) (fun _ _ f => f.elim)).trans (unhide HW3).2 (fun _ _ e => e)).mono (fun k hk e => by omega)
      have hB : Bytes (fun _ => True) W3 (.slice (some ⟨w2.heap.size, 0, none⟩) trialB.size 5) trialB := Bytes.row (unhide HW3).1 trivial rfl (by show 5 ≤ 5; omega) (fun j hj => by rw [Nat.zero_add, trial_cells]; simp)
      have hj3 := (unhide HJ2).keep hk3 (fun _ _ _ f => f)
      have hs2 := (unhide HK2).size
      have hs3 := hk3.size
      have HK3 := hide (((unhide HK1).mono (T := fun k => wr.heap.size ≤ k) (fun _ _ f => f.elim)).trans ((unhide HK2).trans (hk3.mono (fun _ _ f => f.elim)) (fun _ _ q => q)) (fun k _ q => q))
      have HEND : Hid (∀ X, Keeps (fun k => wr.heap.size ≤ k) wr X → Calls Tryz.prog 185 #[.slice (some ⟨g, 0, none⟩) m.dur.length cap] X fun e X' => ∃ d', e = .returned (.tuple #[.pointer (some ⟨d', 0, none⟩), .bool true]) ∧ X'.heap[v]? = some (.cells #[.pointer (some ⟨d, 0, none⟩), .pointer (some ⟨r, 0, none⟩), .int .i64 (m.dur.length : Int), .pointer vj, .pointer (some ⟨rj, 0, none⟩), .bool dirty] 187 (0, 0)) ∧ RJ (fun k => R k ∧ k < w.heap.size) X' rj j ∧ PDisk (fun k => wr.heap.size ≤ k) X' d' (copyDM m.image) ∧ Keeps (fun _ => False) w X') := hide fun X hX => by
        refine (unhide HCP X hX).mono ?_
        rintro e X' ⟨d', e1, e2, e3⟩
        have hs := (unhide HR).2.size
        have hsX := hX.size
        have hk : Keeps (fun _ => False) w X' := ((unhide HR).2.trans hX (fun k hk q => by have q' : wr.heap.size ≤ k := q; omega)).trans e3 (fun _ _ f => f)
        exact ⟨d', e1, hk.heap (unhide HV) (fun f => f), (unhide HRJ).keep hk (fun _ _ _ f => f), Two.mono e2 (fun k _ q => by have q' : X.heap.size ≤ k := q; show wr.heap.size ≤ k; omega), hk⟩
      by_cases hfull : JM.full { j with safe := j.L.length, epoch := j.epoch + 1 }
      · have HA := hide (use_append_full _ pj d1 5 5 (some ⟨w2.heap.size, 0, none⟩) _ _ W3 hj3 (by omega) hfull)
        clear hk3 hj3 hB HW3
        go_wp2_with fail
        go_at_call 186
        refine (unhide HA).mono ?_
        rintro e w4 ⟨rfl, hk4⟩
        have HE := hide (unhide HEND w4 ((unhide HK3).trans (hk4.mono (fun _ _ f => f.elim)) (fun _ _ q => q)))
        clear hk4
        go_wp2_with fail
        go_at_call 185
        refine (unhide HE).mono ?_
        rintro e w5 ⟨d', rfl, hv5, hrj5, hd5, hk5⟩
        have f0 := cell_of_heap (o := 0) hv5
        have f3 := cell_of_heap (o := 3) hv5
        simp at f0 f3
        have n0 := frozen_of_heap (o := 0) hv5
        have n3 := frozen_of_heap (o := 3) hv5
        have HMID := hide (moved_mid hNRv hvl (unhide HR).2.size hv5 hrj5 hd5 hk5)
        clear hv5 hd5 hk5 hrj5 u0 u2 u4 x0 x2 x4 y0 y1 y2 y3 y4 y5 y6 z0 z1 z2 z3 z4 z5 z6
        go_wp2_with fail
        generalize (w5.setCell ⟨v, 0, none⟩ (.pointer (some ⟨d', 0, none⟩))).setCell ⟨v, 3, none⟩ (.pointer none) = w6 at *
        have f4 := cell_of_heap (o := 4) (unhide HMID).1
        simp at f4
        obtain ⟨al5, cl5, hbr5, _, _, _, g2, _, g4, _, _⟩ := (unhide HMID).2.1.cells
        rename_i hx1; clear hx1 f0 f3 n0 n3
        have n4 := frozen_of_heap (o := 4) hbr5
        have hne : ¬ v = rj := fun e => hNRv (e ▸ (unhide HMID).2.1.lt.1.1)
        have hne' : ¬ rj = v := fun e => hne e.symm
        have e2 := cell_of_heap (o := 2) (heap_setCell_same (o := 4) hbr5 (.int .i64 (j.L.length : Int)))
        have e4 := cell_of_heap (o := 4) (((Keeps.refl (fun k => k = rj) w6).setCell (p := ⟨rj, 4, none⟩) (.inl rfl) (.int .i64 (j.L.length : Int))).heap (unhide HMID).1 hne)
        simp at e2 e4
        clear hbr5
        go_region_held3 (fun w' => w'.cell? ⟨v, 4, none⟩ = some (.pointer (some ⟨rj, 0, none⟩)) ∧ w'.cell? ⟨rj, 2, none⟩ = some (.slice al5 j.L.length cl5)) (first | exact ⟨f4, g2⟩ | exact ⟨e4, e2⟩) (fail)
        go_wp2
        go_ret
        exact ⟨rfl, (moved_end hNRv hvl (unhide HR).2.size (unhide HMID) (by rw [copyDM_len]; exact hil) (unhide HFI) (unhide HIO) (copyDM_puts _)).drew⟩
      · have HA := hide (use_append_yes _ (fun _ => True) pj d1 5 (some ⟨w2.heap.size, 0, none⟩) trialB _ _ W3 hj3 (by show 5 ≤ 40; omega) hB hfull hfew)
        clear hk3 hj3 hB HW3
        go_wp2_with fail
        go_at_call 186
        refine (unhide HA).mono ?_
        rintro e w4 ⟨rfl, hj4, hk4⟩
        have HFO := hide (use_force_new _ pj d1 (j.L.length + 1) _ _ w4 hj4 (by show (openedDM j (copyDM m.image)).syncs < _; rw [openedDM_syncs, copyDM_syncs]; omega) (by show _ ≤ (j.L ++ [trialB]).length; simp) (by show j.L.length < _; omega))
        have HK4 := hide ((unhide HK3).trans hk4 (fun k _ q => by
          rcases q with q | q
          · exact q
          · have q' : w1.heap.size ≤ k := q; show wr.heap.size ≤ k; omega))
        have hs4 := hk4.size
        clear hk4 hj4
        go_wp2_with fail
        go_at_call 187
        refine (unhide HFO).mono ?_
        rintro e w4' ⟨rfl, _, hk4⟩
        have HE := hide (unhide HEND w4' ((unhide HK4).trans hk4 (fun k _ q => by
          rcases q with q | q
          · rcases q with q | q
            · exact q
            · have q' : w1.heap.size ≤ k := q; show wr.heap.size ≤ k; omega
          · have q' : W3.heap.size ≤ k := q; show wr.heap.size ≤ k; omega)))
        clear hk4
        rename_i hx1; clear hx1
        go_wp2_with fail
        go_at_call 185
        refine (unhide HE).mono ?_
        rintro e w5 ⟨d', rfl, hv5, hrj5, hd5, hk5⟩
        have f0 := cell_of_heap (o := 0) hv5
        have f3 := cell_of_heap (o := 3) hv5
        simp at f0 f3
        have n0 := frozen_of_heap (o := 0) hv5
        have n3 := frozen_of_heap (o := 3) hv5
        have HMID := hide (moved_mid hNRv hvl (unhide HR).2.size hv5 hrj5 hd5 hk5)
        clear hv5 hd5 hk5 hrj5 u0 u2 u4 x0 x2 x4 y0 y1 y2 y3 y4 y5 y6 z0 z1 z2 z3 z4 z5 z6
        go_wp2_with fail
        generalize (w5.setCell ⟨v, 0, none⟩ (.pointer (some ⟨d', 0, none⟩))).setCell ⟨v, 3, none⟩ (.pointer none) = w6 at *
        have f4 := cell_of_heap (o := 4) (unhide HMID).1
        simp at f4
        obtain ⟨al5, cl5, hbr5, _, _, _, g2, _, g4, _, _⟩ := (unhide HMID).2.1.cells
        rename_i hx1; clear hx1 f0 f3 n0 n3
        have n4 := frozen_of_heap (o := 4) hbr5
        have hne : ¬ v = rj := fun e => hNRv (e ▸ (unhide HMID).2.1.lt.1.1)
        have hne' : ¬ rj = v := fun e => hne e.symm
        have e2 := cell_of_heap (o := 2) (heap_setCell_same (o := 4) hbr5 (.int .i64 (j.L.length : Int)))
        have e4 := cell_of_heap (o := 4) (((Keeps.refl (fun k => k = rj) w6).setCell (p := ⟨rj, 4, none⟩) (.inl rfl) (.int .i64 (j.L.length : Int))).heap (unhide HMID).1 hne)
        simp at e2 e4
        clear hbr5
        go_region_held3 (fun w' => w'.cell? ⟨v, 4, none⟩ = some (.pointer (some ⟨rj, 0, none⟩)) ∧ w'.cell? ⟨rj, 2, none⟩ = some (.slice al5 j.L.length cl5)) (first | exact ⟨f4, g2⟩ | exact ⟨e4, e2⟩) (fail)
        go_wp2
        go_ret
        exact ⟨rfl, (moved_end hNRv hvl (unhide HR).2.size (unhide HMID) (by rw [copyDM_len]; exact hil) (unhide HFI) (unhide HIO) (copyDM_puts _)).drew⟩

end Go.Proofs.YthbmmbgkchiajaaGreat
