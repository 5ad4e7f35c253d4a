
/- A node in plain words: what it remembers, and what each of its acts does to that, up to its end or up to where its power fails. -/
import Derived.Test.YthbmmbgkchiajaaGreatJOps

namespace Go.Proofs.YthbmmbgkchiajaaGreat
set_option linter.unusedSimpArgs false
set_option linter.unusedVariables false
open Go.RowKit

/-- A transaction. -/
structure Tx where
  coord : Nat
  inc : Nat
  seq : Nat
theorem Tx.ext' {a b : Tx} (h1 : a.coord = b.coord) (h2 : a.inc = b.inc) (h3 : a.seq = b.seq) : a = b := by
  cases a; cases b; cases h1; cases h2; cases h3; rfl
instance : DecidableEq Tx := fun a b => decidable_of_iff (a.coord = b.coord ∧ a.inc = b.inc ∧ a.seq = b.seq) ⟨fun h => Tx.ext' h.1 h.2.1 h.2.2, fun h => by subst h; exact ⟨rfl, rfl, rfl⟩⟩
def tx0 : Tx := ⟨0, 0, 0⟩
def Tx.le (a b : Tx) : Bool := decide (a.coord < b.coord) || (decide (a.coord = b.coord) && (decide (a.inc < b.inc) || (decide (a.inc = b.inc) && decide (a.seq ≤ b.seq))))

structure Cfg where
  nodes : Nat
  variant : Nat
  ring : Nat
  per : Nat
  patience : Nat

structure Msg where
  kind : Nat
  frm : Nat
  to : Nat
  txn : Tx

structure Ev where
  kind : Nat
  node : Nat
  txn : Tx
  outcome : Nat
  msg : Msg

structure Deal where
  parts : Nat
  waits : Nat
  outcome : Nat
  ticks : Nat
  recd : Nat
  blk : Nat

structure Rec where
  kind : Nat
  txn : Tx
  nodes : Nat
  outcome : Nat

def num4 (n : Nat) : List UInt8 := [UInt8.ofNat n, UInt8.ofNat (n / 256), UInt8.ofNat (n / 65536), UInt8.ofNat (n / 16777216)]
def txB (t : Tx) : List UInt8 := num4 t.inc ++ num4 t.seq
def Rec.bytes (r : Rec) : ByteArray := ⟨([UInt8.ofNat r.kind, UInt8.ofNat r.nodes, UInt8.ofNat r.outcome, UInt8.ofNat r.txn.coord] ++ txB r.txn).toArray⟩
def marksB (l : List Tx) : ByteArray := ⟨(l.flatMap txB).toArray⟩
theorem txB_length (t : Tx) : (txB t).length = 8 := rfl
theorem Rec.bytes_size (r : Rec) : r.bytes.size = 12 := rfl
theorem marksB_size (l : List Tx) : (marksB l).size = l.length * 8 := by
  show (l.flatMap txB).toArray.size = _
  rw [List.size_toArray]
  induction l with
  | nil => rfl
  | cons t l ih => rw [List.flatMap_cons, List.length_append, txB_length, ih, List.length_cons]; omega

structure NM where
  id : Nat
  cfg : Cfg
  up : Bool
  inc : Nat
  refuses : Bool
  forced : Nat
  lazies : Nat
  sent : Nat
  recs : List Rec
  low : Nat
  safe : Nat
  notes : List Tx
  fuse : Option (Nat × List Bool)
  begun : Nat
  opn : List (Tx × Deal)
  prep : List (Tx × Nat)
  marks : List Tx
  evs : List Ev
  pd : Nat
  bo : Nat
  bp : Nat

def NM.jm (n : NM) : JM := ⟨n.cfg.ring, n.cfg.per, n.recs.map Rec.bytes, n.low, n.safe, n.inc, marksB n.notes⟩
theorem NM.jm_len (n : NM) : n.jm.L.length = n.recs.length := by simp [NM.jm]

section
variable {α : Type}
def mhas (l : List (Tx × α)) (t : Tx) : Bool := l.any (fun x => decide (x.1 = t))
def mget (l : List (Tx × α)) (t : Tx) : Option α := (l.find? (fun x => decide (x.1 = t))).map Prod.snd
def mset (l : List (Tx × α)) (t : Tx) (a : α) : List (Tx × α) := l.map (fun x => if x.1 = t then (t, a) else x)
def mput (l : List (Tx × α)) (t : Tx) (a : α) : List (Tx × α) := if mhas l t then mset l t a else l ++ [(t, a)]
def mdel (l : List (Tx × α)) (t : Tx) : List (Tx × α) := l.filter (fun x => decide (x.1 ≠ t))
end

def msg0 : Msg := ⟨0, 0, 0, tx0⟩
def members (s : Nat) : List Nat := (List.range 4).filter (fun i => s.testBit i)
def without (s i : Nat) : Nat := if s.testBit i then s - 2 ^ i else s

def NM.send (n : NM) (kind to : Nat) (t : Tx) : NM := { n with evs := n.evs ++ [⟨1, n.id, t, 0, ⟨kind, n.id, to, t⟩⟩], sent := n.sent + 1 }
def NM.sendAll (n : NM) (kind s : Nat) (t : Tx) : NM := (members s).foldl (fun n i => n.send kind i t) n
def NM.happen (n : NM) (kind : Nat) (t : Tx) (outcome : Nat) : NM := { n with evs := n.evs ++ [⟨kind, n.id, t, outcome, msg0⟩] }

/-- What is written; its number, 0 if there is no room; or the power fails. -/
def NM.write (n : NM) (r : Rec) : Except NM (Nat × NM) :=
  match n.fuse with
  | some (0, _) => .error n
  | some (k + 1, keep) => if n.jm.full then .ok (0, { n with fuse := some (k, keep) }) else .ok (n.recs.length + 1, { n with fuse := some (k, keep), recs := n.recs ++ [r] })
  | none => if n.jm.full then .ok (0, n) else .ok (n.recs.length + 1, { n with recs := n.recs ++ [r] })
def NM.forces (n : NM) (r : Rec) : Except NM (Nat × NM) :=
  match n.write r with
  | .error m => .error m
  | .ok (0, m) => .ok (0, { m with forced := m.forced + 1 })
  | .ok (i + 1, m) => .ok (i + 1, { m with safe := m.recs.length, forced := m.forced + 1 })
def NM.lazily (n : NM) (r : Rec) : Except NM NM :=
  match n.write r with
  | .error m => .error m
  | .ok (_, m) => .ok { m with lazies := m.lazies + 1 }

def NM.markHas (n : NM) (t : Tx) : Bool := t.le (n.marks.getD t.coord tx0)
def NM.markAdd (n : NM) (t : Tx) : NM := if n.markHas t then n else { n with marks := n.marks.set t.coord t }
def NM.truncate (n : NM) (low : Nat) : NM := { n with low := low, notes := n.marks, safe := n.recs.length }
def NM.mark (n : NM) (t : Tx) : NM := let m := n.markAdd t; { m.truncate m.low with forced := m.forced + 1 }

def NM.presumed (n : NM) : Nat := if n.cfg.variant = 3 then 1 else 2
def NM.acksDue (n : NM) (outcome : Nat) : Bool := decide (n.cfg.variant = 1) || decide (outcome ≠ n.presumed)
def order (outcome : Nat) : Nat := if outcome = 1 then 4 else 5

def NM.seg (n : NM) (i : Nat) : Nat := (i - 1) / n.cfg.per
def NM.room (n : NM) : Nat := n.cfg.ring * n.cfg.per - (n.recs.length - n.seg n.low * n.cfg.per)
def NM.need (n : NM) : Nat := 3 * n.opn.length + 2 * n.prep.length
def NM.isFull (n : NM) : Bool := decide (4 ≤ n.opn.length) || (decide (n.room < n.need + 3) || decide (1073741824 ≤ n.begun))
def NM.lowest (n : NM) : Nat := n.prep.foldl (fun l x => min l x.2) (n.opn.foldl (fun l x => if x.2.recd = 0 then l else min l x.2.recd) (n.recs.length + 1))
def NM.tidy (n : NM) : NM := if n.seg n.low < n.seg n.lowest then n.truncate n.lowest else n

def NM.ends (n : NM) (t : Tx) : Except NM NM :=
  match n.lazily ⟨4, t, 0, 0⟩ with
  | .error m => .error m
  | .ok m => .ok { m with opn := mdel m.opn t }
def NM.settle (n : NM) (t : Tx) (d : Deal) (outcome nodes : Nat) : Except NM NM :=
  let m := (n.happen 2 t outcome).sendAll (order outcome) nodes t
  let k := { m with opn := mset m.opn t { d with outcome := outcome, waits := nodes } }
  if k.acksDue outcome then (if nodes = 0 then k.ends t else .ok k) else .ok { k with opn := mdel k.opn t }
def NM.commit (n : NM) (t : Tx) (d : Deal) : Except NM NM :=
  match n.forces ⟨2, t, d.parts, 0⟩ with
  | .error m => .error m
  | .ok (i, m) => { m with opn := mset m.opn t { d with recd := i } }.settle t { d with recd := i } 1 d.parts
def NM.abort (n : NM) (t : Tx) (d : Deal) (nodes : Nat) : Except NM NM :=
  if n.cfg.variant = 1 then
    match n.forces ⟨3, t, nodes, 0⟩ with
    | .error m => .error m
    | .ok (i, m) => { m with opn := mset m.opn t { d with recd := i } }.settle t { d with recd := i } 2 nodes
  else n.settle t d 2 nodes

def NM.begin (n : NM) (t : Tx) (parts blk : Nat) : Except NM NM :=
  if n.cfg.variant = 3 then
    match n.forces ⟨1, t, parts, 0⟩ with
    | .error m => .error m
    | .ok (i, m) => .ok ({ m with begun := m.begun + 1, opn := mput m.opn t ⟨parts, parts, 0, 0, i, blk⟩ }.sendAll 1 parts t)
  else .ok ({ n with begun := n.begun + 1, opn := mput n.opn t ⟨parts, parts, 0, 0, 0, blk⟩ }.sendAll 1 parts t)

def NM.asked (n : NM) (t : Tx) (frm : Nat) : Option Deal :=
  match mget n.opn t with
  | none => none
  | some d => if d.outcome ≠ 0 ∨ d.waits.testBit frm = false then none else some d
def NM.hearYes (n : NM) (t : Tx) (frm : Nat) : Except NM NM :=
  match n.asked t frm with
  | none => .ok n
  | some d =>
    let m := { n with opn := mset n.opn t { d with waits := without d.waits frm } }
    if without d.waits frm = 0 then m.commit t { d with waits := without d.waits frm } else .ok m
def NM.hearNo (n : NM) (t : Tx) (frm : Nat) : Except NM NM :=
  match n.asked t frm with
  | none => .ok n
  | some d => n.abort t d (without d.parts frm)
def NM.hearAck (n : NM) (t : Tx) (frm : Nat) : Except NM NM :=
  match mget n.opn t with
  | none => .ok n
  | some d =>
    if d.outcome = 0 ∨ d.waits.testBit frm = false then .ok n else
    let m := { n with opn := mset n.opn t { d with waits := without d.waits frm } }
    if without d.waits frm = 0 then m.ends t else .ok m
def NM.answer (n : NM) (t : Tx) (frm : Nat) : NM :=
  match mget n.opn t with
  | none => n.send (order n.presumed) frm t
  | some d => if d.outcome = 0 then n else n.send (order d.outcome) frm t

def NM.prepare (n : NM) (t : Tx) : Except NM NM :=
  match n.forces ⟨5, t, 0, 0⟩ with
  | .error m => .error m
  | .ok (i, m) => .ok ({ m with prep := mput m.prep t i }.markAdd t)
def NM.vote (n : NM) (t : Tx) (frm : Nat) : Except NM NM :=
  if mhas n.prep t then .ok (n.send 2 frm t) else
  if n.markHas t then .ok n else
  if n.refuses then .ok ((n.mark t).send 3 frm t) else
  if 4 ≤ n.prep.length ∨ n.room < n.need + 2 then .ok n else
  match n.prepare t with
  | .error m => .error m
  | .ok m => .ok (m.send 2 frm t)
def NM.apply (n : NM) (t : Tx) (outcome : Nat) (due : Bool) : Except NM NM :=
  match (if due then (n.forces ⟨6, t, 0, outcome⟩).map Prod.snd else n.lazily ⟨6, t, 0, outcome⟩) with
  | .error m => .error m
  | .ok m => let k := m.happen 3 t outcome; .ok { k with prep := mdel k.prep t }
def NM.learn (n : NM) (t : Tx) (frm outcome : Nat) : Except NM NM :=
  match (if mhas n.prep t then n.apply t outcome (n.acksDue outcome) else .ok (if n.acksDue outcome = true ∧ n.markHas t = false then n.mark t else n)) with
  | .error m => .error m
  | .ok m => .ok (if n.acksDue outcome then m.send 6 frm t else m)
def NM.act (n : NM) (m : Msg) : Except NM NM :=
  match m.kind with
  | 1 => n.vote m.txn m.frm
  | 2 => n.hearYes m.txn m.frm
  | 3 => n.hearNo m.txn m.frm
  | 4 => n.learn m.txn m.frm 1
  | 5 => n.learn m.txn m.frm 2
  | 6 => n.hearAck m.txn m.frm
  | 7 => .ok (n.answer m.txn m.frm)
  | _ => .ok n

def marks0 : List Tx := List.replicate 4 tx0
def NM.crash (n : NM) (keep : List Bool) : NM :=
  { n with up := false, recs := n.recs.take (n.safe + runOf keep (n.recs.length - n.safe)), evs := n.evs ++ [⟨4, n.id, tx0, 0, msg0⟩], fuse := none, begun := 0, opn := [], prep := [], marks := marks0 }
/-- A call at a node's edge: it ends, or its power fails. -/
def NM.powered (n : NM) (r : Except NM NM) : NM × Bool :=
  match r with
  | .ok m => (m.tidy, true)
  | .error m => (m.crash ((n.fuse.map Prod.snd).getD []), false)

end Go.Proofs.YthbmmbgkchiajaaGreat

/- Small functions of nodes: sets, the comparison of transactions, numbers. -/
namespace Go.Proofs.YthbmmbgkchiajaaGreat
set_option linter.unusedSimpArgs false
set_option linter.unusedVariables false
open Go.RowKit

def shrS (x y : Value) : Sem Value := binOp .shr 87 x y
theorem shrS_eq (x y : Value) : binOp .shr 87 x y = shrS x y := rfl
def shlS (x y : Value) : Sem Value := binOp .shl 87 x y
theorem shlS_eq (x y : Value) : binOp .shl 87 x y = shlS x y := rfl
def andS (x y : Value) : Sem Value := binOp .and 87 x y
theorem andS_eq (x y : Value) : binOp .and 87 x y = andS x y := rfl
def andNotS (x y : Value) : Sem Value := binOp .andNot 87 x y
theorem andNotS_eq (x y : Value) : binOp .andNot 87 x y = andNotS x y := rfl

theorem run_shrS (W : World) (s i : Nat) (hi : i < 4) : (shrS (.int .i64 (s : Int)) (.int .i64 (i : Int))).run Tryz.prog W = .ok (.int .i64 ((s / 2 ^ i : Nat) : Int)) W := by
  have e : min (i : Int).toNat IntKind.i64.bits = i := by
    show min _ 64 = _
    omega
  unfold shrS binOp Op.shift
  simp only
  rw [if_neg (by omega), e]
  show (pure (Value.int .i64 ((s : Int).fdiv (2 ^ i))) : Sem Value).run _ _ = _
  have e2 : (s : Int).fdiv (2 ^ i) = ((s / 2 ^ i : Nat) : Int) := by
    have e3 : (2 : Int) ^ i = ((2 ^ i : Nat) : Int) := by rw [Int.natCast_pow]; rfl
    rw [e3, Int.fdiv_eq_ediv_of_nonneg _ (Int.natCast_nonneg _)]; rfl
  rw [e2]; rfl

theorem run_shlS (W : World) (i : Nat) (hi : i < 4) : (shlS (.int .i64 1) (.int .i64 (i : Int))).run Tryz.prog W = .ok (.int .i64 ((2 ^ i : Nat) : Int)) W := by
  have e : min (i : Int).toNat IntKind.i64.bits = i := by
    show min _ 64 = _
    omega
  unfold shlS binOp Op.shift
  simp only
  rw [if_neg (by omega), e]
  show (pure (Value.int .i64 (IntKind.i64.wrap _)) : Sem Value).run _ _ = _
  have hle : 2 ^ i ≤ 2 ^ 3 := Nat.pow_le_pow_right (by omega) (by omega)
  have e2 : (1 : Int) * 2 ^ i = ((2 ^ i : Nat) : Int) := by rw [Int.one_mul, Int.natCast_pow]; rfl
  rw [e2]
  generalize 2 ^ i = x at *
  rw [IntWalk.i64_in _ ⟨by omega, by omega⟩]
  rfl

theorem run_andS (W : World) (x : Nat) (hx : x < 16) : (andS (.int .i64 (x : Int)) (.int .i64 1)).run Tryz.prog W = .ok (.int .i64 ((x % 2 : Nat) : Int)) W := by
  unfold andS binOp Op.intBits
  simp only [ne_eq, not_true_eq_false, if_false]
  show (pure (Value.int .i64 (IntKind.i64.wrap _)) : Sem Value).run _ _ = _
  have e : (BitVec.ofInt IntKind.i64.bits ((x : Nat) : Int) &&& BitVec.ofInt IntKind.i64.bits 1).toNat = x % 2 := by
    show (BitVec.ofInt 64 _ &&& BitVec.ofInt 64 ((1 : Nat) : Int)).toNat = _
    rw [BitVec.toNat_and, BitVec.ofInt_natCast, BitVec.ofInt_natCast, BitVec.toNat_ofNat, BitVec.toNat_ofNat, Nat.mod_eq_of_lt (a := x) (b := 2 ^ 64) (by omega), Nat.mod_eq_of_lt (a := 1) (b := 2 ^ 64) (by omega)]
    exact Nat.and_one_is_mod x
  rw [e, IntWalk.i64_in _ ⟨by omega, by omega⟩]
  rfl

theorem without_bits : ∀ s : Fin 16, ∀ i : Fin 4, (BitVec.ofNat 64 s.val &&& ~~~ BitVec.ofNat 64 (2 ^ i.val)).toNat = without s.val i.val := by decide
theorem without_lt : ∀ s : Fin 16, ∀ i : Fin 4, without s.val i.val < 16 := by decide

theorem run_andNotS (W : World) (s i : Nat) (hs : s < 16) (hi : i < 4) : (andNotS (.int .i64 (s : Int)) (.int .i64 ((2 ^ i : Nat) : Int))).run Tryz.prog W = .ok (.int .i64 ((without s i : Nat) : Int)) W := by
  unfold andNotS binOp Op.intBits
  simp only [ne_eq, not_true_eq_false, if_false]
  show (pure (Value.int .i64 (IntKind.i64.wrap _)) : Sem Value).run _ _ = _
  have e : (BitVec.ofInt IntKind.i64.bits ((s : Nat) : Int) &&& ~~~ BitVec.ofInt IntKind.i64.bits ((2 ^ i : Nat) : Int)).toNat = without s i := by
    show (BitVec.ofInt 64 _ &&& ~~~ BitVec.ofInt 64 _).toNat = _
    rw [BitVec.ofInt_natCast, BitVec.ofInt_natCast]
    exact without_bits ⟨s, hs⟩ ⟨i, hi⟩
  have hw : without s i < 16 := without_lt ⟨s, hs⟩ ⟨i, hi⟩
  rw [e, IntWalk.i64_in _ ⟨by omega, by omega⟩]
  rfl

attribute [local go_sem ↓] shrS_eq shlS_eq andS_eq andNotS_eq

theorem bit_eq (s i : Nat) : (((s / 2 ^ i % 2 : Nat) : Int) == 1) = s.testBit i := by
  rw [Nat.testBit_eq_decide_div_mod_eq]
  rw [Bool.eq_iff_iff, beq_iff_eq, decide_eq_true_eq]
  omega

set_option maxRecDepth 100000 in
theorem sHas_any (s i : Nat) (w : World) (hs : s < 16) (hi : i < 4) :
    Calls Tryz.prog 86 #[.int .i64 (s : Int), .int .i64 (i : Int)] w fun e w' => e = .returned (.bool (s.testBit i)) ∧ w' = w := by
  have h1 := run_shrS w s i hi
  have hle : s / 2 ^ i < 16 := Nat.lt_of_le_of_lt (Nat.div_le_self _ _) hs
  have h2 := run_andS w (s / 2 ^ i) hle
  have HE := hide (bit_eq s i)
  generalize s / 2 ^ i = x at h1 h2 HE
  generalize x % 2 = y at h2 HE
  go_enter Tryz.func86, Tryz.ntmps86
  go_wp2
  go_ret
  rw [← unhide HE]
  exact ⟨rfl, rfl⟩

set_option maxRecDepth 100000 in
theorem sWithout_any (s i : Nat) (w : World) (hs : s < 16) (hi : i < 4) :
    Calls Tryz.prog 231 #[.int .i64 (s : Int), .int .i64 (i : Int)] w fun e w' => e = .returned (.int .i64 ((without s i : Nat) : Int)) ∧ w' = w := by
  have h1 := run_shlS w i hi
  have h2 := run_andNotS w s i hs hi
  generalize 2 ^ i = x at h1 h2
  generalize without s i = y at *
  go_enter Tryz.func231, Tryz.ntmps231
  go_wp2
  go_ret
  exact ⟨rfl, rfl⟩

/-- The order of two numbers. -/
def cmpI (a b : Nat) : Int := if a < b then -1 else if b < a then 1 else 0
set_option maxRecDepth 100000 in
theorem cmpCompare_any (a b : Nat) (w : World) :
    Calls Tryz.prog 291 #[.int .i64 (a : Int), .int .i64 (b : Int)] w fun e w' => e = .returned (.int .i64 (cmpI a b)) ∧ w' = w := by
  have ha : ((a : Int) != (a : Int)) = false := by simp
  have hb : ((b : Int) != (b : Int)) = false := by simp
  unfold cmpI
  by_cases h1 : a < b
  · rw [if_pos h1]
    go_enter Tryz.func291, Tryz.ntmps291
    go_wp2
    go_ret
    exact ⟨rfl, rfl⟩
  · rw [if_neg h1]
    by_cases h2 : b < a
    · rw [if_pos h2]
      go_enter Tryz.func291, Tryz.ntmps291
      go_wp2
      go_ret
      exact ⟨rfl, rfl⟩
    · rw [if_neg h2]
      go_enter Tryz.func291, Tryz.ntmps291
      go_wp2
      go_ret
      exact ⟨rfl, rfl⟩

end Go.Proofs.YthbmmbgkchiajaaGreat

/- The comparison of transactions; the marks. -/
namespace Go.Proofs.YthbmmbgkchiajaaGreat
set_option linter.unusedSimpArgs false
set_option linter.unusedVariables false
open Go.RowKit

def firstNZ : List Int → Int
  | [] => 0
  | x :: l => if x = 0 then firstNZ l else x
theorem firstNZ_step (zs : List Int) (j : Nat) (h : j < zs.length) (h0 : zs.getD j 0 = 0) : firstNZ (zs.drop j) = firstNZ (zs.drop (j + 1)) := by
  rw [List.drop_eq_getElem_cons h]
  have e : zs[j] = 0 := by simpa [List.getD, h] using h0
  rw [e]; rfl
theorem firstNZ_hit (zs : List Int) (j : Nat) (h : j < zs.length) (h0 : zs.getD j 0 ≠ 0) : firstNZ (zs.drop j) = zs.getD j 0 := by
  rw [List.drop_eq_getElem_cons h]
  have e : zs.getD j 0 = zs[j] := by simp [List.getD, h]
  rw [e] at h0 ⊢
  unfold firstNZ
  rw [if_neg h0]

set_option maxHeartbeats 400000 in
theorem cmpOr_any (b len cap : Nat) (zs : List Int) (w : World) (hz : zs.length = len) (hlen : len ≤ 1000) (_hcap : len ≤ cap)
    (hc : ∀ j, j < zs.length → w.cell? ⟨b, j, none⟩ = some (.int .i64 (zs.getD j 0))) :
    Calls Tryz.prog 290 #[.slice (some ⟨b, 0, none⟩) len cap] w fun e w' => e = .returned (.int .i64 (firstNZ zs)) ∧ w' = w := by
  go_enter Tryz.func290, Tryz.ntmps290
  go_wp2
  go_loop [8] (fun i => ∃ j : Nat, j ≤ len ∧ i = .int .i64 j ∧ Hid (firstNZ zs = firstNZ (zs.drop j))) (fun i => len - (intOf i).toNat)
  case atStart => exact ⟨0, Nat.zero_le _, rfl, hide rfl⟩
  case round =>
    obtain ⟨j, hj, rfl, HN⟩ := hrel
    by_cases hlt : j < len
    · have hcj := hc j (by omega)
      have HS := hide (firstNZ_step zs j (by omega))
      have HH := hide (firstNZ_hit zs j (by omega))
      clear hc
      generalize zs.getD j 0 = z at *
      by_cases he : z = 0
      · have hb : (z != 0) = false := by simpa using he
        have HB := hide he
        clear he
        go_wp2
        go_round
        case rel => exact ⟨j + 1, by omega, by go_num, hide ((unhide HN).trans ((unhide HS) (unhide HB)))⟩
        case measure => simp [intOf]; omega
      · have hb : (z != 0) = true := by simpa using he
        have HB := hide he
        clear he
        go_wp2
        go_ret
        exact ⟨(congrArg (fun z => Ending.returned (Value.int .i64 z)) ((unhide HN).trans ((unhide HH) (unhide HB)))).symm, rfl⟩
    · have HT := hide (List.drop_of_length_le (l := zs) (i := j) (by omega))
      go_wp2
      go_ret
      exact ⟨(congrArg (fun z => Ending.returned (Value.int .i64 z)) ((unhide HN).trans (congrArg firstNZ (unhide HT)))).symm, rfl⟩

theorem Keeps.unDrew {S : Nat → Prop} {w w' : World} (h : Keeps S w.drew w') : Keeps S w w' := ⟨h.os, h.tape, h.output, h.size, h.block⟩
theorem cell_al {W : World} {p : Addr} {v : Value} (h : W.cell? p = some v) (o : Obj) : (W.alloc o).drew.cell? p = some v := by
  have hb : p.block < W.heap.size := by
    unfold World.cell? at h
    cases hx : W.heap[p.block]? with
    | none => rw [hx] at h; simp at h
    | some x => exact lt_of_heap hx
  show (W.alloc o).cell? p = some v
  rw [← h]
  exact World.cell?_of_block (Below.heap_alloc _ _ _ hb)

theorem Keeps.cell' {T : Nat → Prop} {w w' : World} (hk : Keeps T w w') {p : Addr} {v : Value} (h : w.cell? p = some v) (hn : ¬ T p.block) : w'.cell? p = some v := (hk.cell (by
  unfold World.cell? at h
  cases hx : w.heap[p.block]? with
  | none => rw [hx] at h; simp at h
  | some x => exact lt_of_heap hx) hn).trans h
theorem keeps_set3 (w : World) (p o1 o2 o3 : Nat) (v1 v2 v3 : Value) : Keeps (fun k => k = p) w (((w.setCell ⟨p, o1, none⟩ v1).setCell ⟨p, o2, none⟩ v2).setCell ⟨p, o3, none⟩ v3).drew :=
  ((((Keeps.refl (fun k => k = p) w).setCell (p := ⟨p, o1, none⟩) (.inl rfl) v1).setCell (p := ⟨p, o2, none⟩) (.inl rfl) v2).setCell (p := ⟨p, o3, none⟩) (.inl rfl) v3).drew

def txv (t : Tx) : Value := .agg #[.int .i64 (t.coord : Int), .int .i64 (t.inc : Int), .int .i64 (t.seq : Int)]
def cmpT (a b : Tx) : Int := firstNZ [cmpI a.coord b.coord, cmpI a.inc b.inc, cmpI a.seq b.seq]
theorem cmpT_le (a b : Tx) : decide (cmpT a b ≤ 0) = a.le b := by
  unfold cmpT firstNZ Tx.le cmpI
  rcases Nat.lt_trichotomy a.coord b.coord with h | h | h
  · simp [h]
  · rcases Nat.lt_trichotomy a.inc b.inc with h2 | h2 | h2
    · simp [h, h2, firstNZ]
    · rcases Nat.lt_trichotomy a.seq b.seq with h3 | h3 | h3
      · simp [h, h2, h3, firstNZ, Nat.le_of_lt h3]
      · simp [h, h2, h3, firstNZ]
      · simp [h, h2, h3, firstNZ, Nat.lt_asymm h3, Nat.not_le.2 h3]
    · simp [h, h2, Nat.lt_asymm h2, Nat.ne_of_gt h2, firstNZ]
  · simp [h, Nat.lt_asymm h, Nat.ne_of_gt h]

set_option maxRecDepth 100000 in
set_option maxHeartbeats 400000 in
theorem rCompare_any (a b : Tx) (w : World) :
    Calls Tryz.prog 247 #[txv a, txv b] w fun e w' => e = .returned (.int .i64 (cmpT a b)) ∧ Keeps (fun _ => False) w w' := by
  unfold txv cmpT
  obtain ⟨a1, a2, a3⟩ := a
  obtain ⟨b1, b2, b3⟩ := b
  go_enter Tryz.func247, Tryz.ntmps247
  go_wp2_with fail
  generalize hW : World.alloc (World.alloc w _) _ = W
  have hk : Keeps (fun _ => False) w W := by rw [← hW]; exact ((Keeps.refl _ w).alloc _).alloc _
  have hA : W.heap[w.heap.size]? = some (.cells #[.int .i64 (a1 : Int), .int .i64 (a2 : Int), .int .i64 (a3 : Int)] 38 (0, 0)) := by
    rw [← hW, Below.heap_alloc _ _ _ (by simp)]; exact heap_alloc_new _ _
  have hB : W.heap[w.heap.size + 1]? = some (.cells #[.int .i64 (b1 : Int), .int .i64 (b2 : Int), .int .i64 (b3 : Int)] 38 (0, 0)) := by
    rw [← hW]; exact heap_two _ _ _
  clear hW
  have c0 := cell_of_heap (o := 0) hA
  have c1 := cell_of_heap (o := 1) hA
  have c2 := cell_of_heap (o := 2) hA
  have d0 := cell_of_heap (o := 0) hB
  have d1 := cell_of_heap (o := 1) hB
  have d2 := cell_of_heap (o := 2) hB
  simp at c0 c1 c2 d0 d1 d2
  have hor : ∀ j, j < [cmpI a1 b1, cmpI a2 b2, cmpI a3 b3].length → (W.alloc (.cells #[.int .i64 (cmpI a1 b1), .int .i64 (cmpI a2 b2), .int .i64 (cmpI a3 b3)] 3)).drew.cell? ⟨W.heap.size, j, none⟩ = some (.int .i64 ([cmpI a1 b1, cmpI a2 b2, cmpI a3 b3].getD j 0)) := by
    intro j hj
    have hn := heap_alloc_new W (.cells #[.int .i64 (cmpI a1 b1), .int .i64 (cmpI a2 b2), .int .i64 (cmpI a3 b3)] 3 (0, 0))
    refine (cell_of_heap (o := j) hn).trans ?_
    have hj' : j < 3 := hj
    match j, hj' with
    | 0, _ => rfl
    | 1, _ => rfl
    | 2, _ => rfl
  go_region_held3 (fun w' => w'.cell? ⟨w.heap.size, 0, none⟩ = some (.int .i64 (a1 : Int)) ∧ w'.cell? ⟨w.heap.size, 1, none⟩ = some (.int .i64 (a2 : Int)) ∧ w'.cell? ⟨w.heap.size, 2, none⟩ = some (.int .i64 (a3 : Int)) ∧ w'.cell? ⟨w.heap.size + 1, 0, none⟩ = some (.int .i64 (b1 : Int)) ∧ w'.cell? ⟨w.heap.size + 1, 1, none⟩ = some (.int .i64 (b2 : Int)) ∧ w'.cell? ⟨w.heap.size + 1, 2, none⟩ = some (.int .i64 (b3 : Int))) (first | exact ⟨c0, c1, c2, d0, d1, d2⟩ | exact ⟨cell_al c0 _, cell_al c1 _, cell_al c2 _, cell_al d0 _, cell_al d1 _, cell_al d2 _⟩) (first | (go_at_call 291; refine (cmpCompare_any _ _ _).mono ?_; rintro e w' ⟨rfl, rfl⟩) | (go_at_call 290; refine (cmpOr_any W.heap.size 3 3 [cmpI a1 b1, cmpI a2 b2, cmpI a3 b3] _ rfl (by omega) (by omega) hor).mono ?_; rintro e w' ⟨rfl, rfl⟩))
  go_wp2
  go_ret
  exact ⟨rfl, (hk.alloc _).drew⟩

/-- The marks lie at p, from o on. -/
def MarksAt (w : World) (p o : Nat) (ms : List Tx) : Prop := ∀ c, c < 4 → w.cell? ⟨p, o + c * 3, none⟩ = some (.int .i64 ((ms.getD c tx0).coord : Int)) ∧ w.cell? ⟨p, o + c * 3 + 1, none⟩ = some (.int .i64 ((ms.getD c tx0).inc : Int)) ∧ w.cell? ⟨p, o + c * 3 + 2, none⟩ = some (.int .i64 ((ms.getD c tx0).seq : Int))
theorem MarksAt.keep {T : Nat → Prop} {w w' : World} {p o : Nat} {ms : List Tx} (h : MarksAt w p o ms) (hk : Keeps T w w') (hp : p < w.heap.size) (hn : ¬ T p) : MarksAt w' p o ms := fun c hc =>
  ⟨(hk.cell (p := ⟨p, o + c * 3, none⟩) hp hn).trans (h c hc).1, (hk.cell (p := ⟨p, o + c * 3 + 1, none⟩) hp hn).trans (h c hc).2.1, (hk.cell (p := ⟨p, o + c * 3 + 2, none⟩) hp hn).trans (h c hc).2.2⟩

theorem lt_of_cell {W : World} {p : Addr} {v : Value} (h : W.cell? p = some v) : p.block < W.heap.size := by
  unfold World.cell? at h
  cases hx : W.heap[p.block]? with
  | none => rw [hx] at h; simp at h
  | some x => exact lt_of_heap hx

set_option maxRecDepth 100000 in
set_option maxHeartbeats 400000 in
theorem mHas_any (p o : Nat) (ms : List Tx) (t : Tx) (w : World) (h : MarksAt w p o ms) (ht : t.coord < 4) :
    Calls Tryz.prog 227 #[.pointer (some ⟨p, o, none⟩), txv t] w fun e w' => e = .returned (.bool (t.le (ms.getD t.coord tx0))) ∧ Keeps (fun _ => False) w w' := by
  obtain ⟨e0, e1, e2⟩ := h t.coord ht
  have hpl := lt_of_cell e0
  generalize ms.getD t.coord tx0 = m at *
  have HL := hide (cmpT_le t m)
  have hcmp := fun W => rCompare_any t m W
  generalize cmpT t m = cm at HL hcmp
  generalize t.le m = bm at *
  unfold txv at *
  obtain ⟨a1, a2, a3⟩ := t
  obtain ⟨b1, b2, b3⟩ := m
  simp only at *
  have i0 : (0 : Int) ≤ (a1 : Int) := Int.natCast_nonneg _
  have i4 : (a1 : Int) < 4 := by omega
  go_enter Tryz.func227, Tryz.ntmps227
  go_wp2_with fail
  generalize hW : World.alloc w _ = W
  have hk : Keeps (fun _ => False) w W := by rw [← hW]; exact (Keeps.refl _ w).alloc _
  have hA : W.heap[w.heap.size]? = some (.cells #[.int .i64 (a1 : Int), .int .i64 (a2 : Int), .int .i64 (a3 : Int)] 38 (0, 0)) := by
    rw [← hW]; exact heap_alloc_new _ _
  clear hW
  have c0 := cell_of_heap (o := 0) hA
  have c1 := cell_of_heap (o := 1) hA
  have c2 := cell_of_heap (o := 2) hA
  simp at c0 c1 c2
  have d0 := (hk.cell hpl (fun f => f)).trans e0
  have d1 := (hk.cell (p := ⟨p, o + a1 * 3 + 1, none⟩) hpl (fun f => f)).trans e1
  have d2 := (hk.cell (p := ⟨p, o + a1 * 3 + 2, none⟩) hpl (fun f => f)).trans e2
  clear e0 e1 e2 h
  go_region_held3 (fun w' => w'.cell? ⟨w.heap.size, 0, none⟩ = some (.int .i64 (a1 : Int)) ∧ w'.cell? ⟨w.heap.size, 1, none⟩ = some (.int .i64 (a2 : Int)) ∧ w'.cell? ⟨w.heap.size, 2, none⟩ = some (.int .i64 (a3 : Int)) ∧ w'.cell? ⟨p, o + a1 * 3, none⟩ = some (.int .i64 (b1 : Int)) ∧ w'.cell? ⟨p, o + a1 * 3 + 1, none⟩ = some (.int .i64 (b2 : Int)) ∧ w'.cell? ⟨p, o + a1 * 3 + 2, none⟩ = some (.int .i64 (b3 : Int))) (first | exact ⟨c0, c1, c2, d0, d1, d2⟩ | exact hS1) (first | (go_at_call 247; refine (hcmp _).mono ?_; rintro e w1 ⟨rfl, hk1'⟩; have hk1 := hk1'.unDrew; have hS1 := And.intro ((hk1.cell (lt_of_cell c0) (fun f => f)).trans c0) (And.intro ((hk1.cell (lt_of_cell c1) (fun f => f)).trans c1) (And.intro ((hk1.cell (lt_of_cell c2) (fun f => f)).trans c2) (And.intro ((hk1.cell (lt_of_cell d0) (fun f => f)).trans d0) (And.intro ((hk1.cell (lt_of_cell d1) (fun f => f)).trans d1) ((hk1.cell (lt_of_cell d2) (fun f => f)).trans d2)))))))
  go_wp2
  go_ret
  exact ⟨congrArg (fun b => Ending.returned (Value.bool b)) (unhide HL), hk.trans hk1 (fun _ _ f => f.elim)⟩

set_option maxRecDepth 100000 in
set_option maxHeartbeats 400000 in
theorem mAdd_any (p o : Nat) (ms : List Tx) (t : Tx) (w : World) (cs : Array Value) (ty : TypeId) (hb : w.heap[p]? = some (.cells cs ty (0, 0))) (h : MarksAt w p o ms) (ht : t.coord < 4) :
    Calls Tryz.prog 281 #[.pointer (some ⟨p, o, none⟩), txv t] w fun e w' => e = .returned (.tuple #[]) ∧ if t.le (ms.getD t.coord tx0) then Keeps (fun _ => False) w w' else Keeps (fun k => k = p) w w' ∧ w'.heap[p]? = some (.cells (((cs.setIfInBounds (o + t.coord * 3) (.int .i64 (t.coord : Int))).setIfInBounds (o + t.coord * 3 + 1) (.int .i64 (t.inc : Int))).setIfInBounds (o + t.coord * 3 + 2) (.int .i64 (t.seq : Int))) ty (0, 0)) := by
  have hpl := lt_of_heap hb
  have hhas := fun W (hk : Keeps (fun _ => False) w W) => mHas_any p o ms t W (h.keep hk hpl (fun f => f)) ht
  obtain ⟨e0, e1, e2⟩ := h t.coord ht
  clear h
  generalize ms.getD t.coord tx0 = m at *
  generalize t.le m = bm at *
  unfold txv at *
  obtain ⟨a1, a2, a3⟩ := t
  obtain ⟨b1, b2, b3⟩ := m
  simp only at *
  have i0 : (0 : Int) ≤ (a1 : Int) := Int.natCast_nonneg _
  have i4 : (a1 : Int) < 4 := by omega
  have hkA : Keeps (fun _ => False) w (w.alloc (.cells #[.int .i64 (a1 : Int), .int .i64 (a2 : Int), .int .i64 (a3 : Int)] 38)) := (Keeps.refl _ w).alloc _
  have hA : (w.alloc (.cells #[.int .i64 (a1 : Int), .int .i64 (a2 : Int), .int .i64 (a3 : Int)] 38)).heap[w.heap.size]? = some (.cells #[.int .i64 (a1 : Int), .int .i64 (a2 : Int), .int .i64 (a3 : Int)] 38 (0, 0)) := heap_alloc_new _ _
  cases bm with
  | true =>
    go_enter Tryz.func281, Tryz.ntmps281
    go_wp2_with fail
    go_wp2_with (go_at_call 227; refine (hhas _ hkA).mono ?_; rintro e w1 ⟨rfl, hk1⟩)
    go_end0
    exact ⟨rfl, hkA.trans hk1 (fun _ _ f => f.elim)⟩
  | false =>
    go_enter Tryz.func281, Tryz.ntmps281
    go_wp2_with fail
    go_wp2_with (go_at_call 227; refine (hhas _ hkA).mono ?_; rintro e w1 ⟨rfl, hk1⟩)
    have hk := hkA.trans hk1 (fun _ _ f => f.elim)
    have hb1 := hk.heap hb (fun f => f)
    have hA1 := hk1.heap hA (fun f => f)
    have c0 := cell_of_heap (o := 0) hA1
    have c1 := cell_of_heap (o := 1) hA1
    have c2 := cell_of_heap (o := 2) hA1
    simp at c0 c1 c2
    have d0 := (hk.cell (p := ⟨p, o + a1 * 3, none⟩) hpl (fun f => f)).trans e0
    have d1 := (hk.cell (p := ⟨p, o + a1 * 3 + 1, none⟩) hpl (fun f => f)).trans e1
    have d2 := (hk.cell (p := ⟨p, o + a1 * 3 + 2, none⟩) hpl (fun f => f)).trans e2
    have f0 := frozen_of_heap (o := o + a1 * 3) hb1
    have f1 := frozen_of_heap (o := o + a1 * 3 + 1) hb1
    have f2 := frozen_of_heap (o := o + a1 * 3 + 2) hb1
    have hne : ¬ p = w.heap.size := by omega
    clear e0 e1 e2 hA hkA hhas
    go_region_held3 (fun w' => w'.cell? ⟨w.heap.size, 0, none⟩ = some (.int .i64 (a1 : Int)) ∧ w'.cell? ⟨w.heap.size, 1, none⟩ = some (.int .i64 (a2 : Int)) ∧ w'.cell? ⟨w.heap.size, 2, none⟩ = some (.int .i64 (a3 : Int))) (first | exact ⟨c0, c1, c2⟩ | exact ⟨(keeps_set3 _ _ _ _ _ _ _ _).cell' c0 (fun e => hne e.symm), (keeps_set3 _ _ _ _ _ _ _ _).cell' c1 (fun e => hne e.symm), (keeps_set3 _ _ _ _ _ _ _ _).cell' c2 (fun e => hne e.symm)⟩) (fail)
    go_end0
    refine ⟨rfl, ?_⟩
    rw [if_neg (by simp)]
    refine ⟨(hk.mono (T := fun k => k = p) (fun _ _ f => f.elim)).trans (keeps_set3 _ _ _ _ _ _ _ _) (fun _ _ e => e), ?_⟩
    exact heap_setCell_same (heap_setCell_same (heap_setCell_same hb1 _) _) _

end Go.Proofs.YthbmmbgkchiajaaGreat
