import Derived.RowKit3
import Derived.Below
import Derived.Test.YtfkkmjejmflgjaaRows
import Derived.Laws.AppendOwn
import Derived.Laws.OwnMore
import Derived.Laws.MakeOwn
/-
  Frames as plain data: which are right, and the bytes that are shown ahead of a body. By the verifier.
-/
namespace Go.Proofs.Ytfkkmjejmflgjaa
open Go.RowKit

/-- A frame: its numbers, its tags, its body. -/
structure Fr where
  to : Int
  frm : Int
  tags : List Int
  src : Int
  dst : Int
  proto : Int
  sport : Int
  dport : Int
  mark : Int
  sum : Int
  body : ByteArray

/-- From lo to hi. -/
def inB (lo hi n : Int) : Bool := decide (lo ≤ n ∧ n ≤ hi)
theorem inB_true {lo hi n : Int} : inB lo hi n = true ↔ lo ≤ n ∧ n ≤ hi := by simp [inB]
theorem inB_false {lo hi n : Int} : inB lo hi n = false ↔ n < lo ∨ hi < n := by simp [inB]; omega

/-- A right frame. -/
def Fr.Ok (f : Fr) : Prop :=
  (0 ≤ f.to ∧ f.to ≤ 65535) ∧ (0 ≤ f.frm ∧ f.frm ≤ 65535) ∧ f.tags.length ≤ 2 ∧ (0 ≤ f.src ∧ f.src ≤ 4294967295) ∧ (0 ≤ f.dst ∧ f.dst ≤ 4294967295) ∧
  (0 ≤ f.proto ∧ f.proto ≤ 255) ∧ (0 ≤ f.sport ∧ f.sport ≤ 65535) ∧ (0 ≤ f.dport ∧ f.dport ≤ 65535) ∧ (0 ≤ f.mark ∧ f.mark ≤ 3) ∧ (0 ≤ f.sum ∧ f.sum ≤ 65535) ∧
  f.body.size ≤ 1500 ∧ f.tags.all (inB 0 4095) = true
def Fr.okDec (f : Fr) : Decidable f.Ok := by unfold Fr.Ok; exact inferInstance
/-- As a flag. -/
def Fr.ok (f : Fr) : Bool := @decide f.Ok f.okDec
/-- n in k bytes, the highest first. -/
def be : Nat → Int → List Int
  | 0, _ => []
  | k + 1, n => (n / 256 ^ k % 256) :: be k n
/-- The tags as they are shown. -/
def tagBytes : List Int → List Int
  | [] => []
  | z :: r => 1 :: (be 2 z ++ tagBytes r)
/-- Up to the tags' end. -/
def Fr.outer (f : Fr) : List Int := be 2 f.to ++ be 2 f.frm ++ tagBytes f.tags
/-- From the source on, ahead of the body. -/
def Fr.mid (f : Fr) : List Int :=
  be 4 f.src ++ be 4 f.dst ++ be 1 f.proto ++ be 2 f.sport ++ be 2 f.dport ++ be 1 f.mark ++ be 2 f.sum ++ be 2 f.body.size
/-- All that is shown ahead of the body. -/
def Fr.head (f : Fr) : List Int := f.outer ++ [2] ++ f.mid
/-- Bytes as a text. -/
def strB (xs : List Int) : ByteArray := ⟨(xs.map fun n => UInt8.ofNat n.toNat).toArray⟩
/-- What a frame is shown as. -/
def Fr.show (f : Fr) : ByteArray := if f.ok then strB f.head ++ f.body else ByteArray.empty
/-- Cells that hold these numbers. -/
def IntsAt (w : World) (a : Option Addr) (zs : List Int) : Prop :=
  ∀ k, k < zs.length → ∃ b off, a = some ⟨b, off, none⟩ ∧ b < w.heap.size ∧ w.cell? ⟨b, off + k, none⟩ = some (.int .i64 (zs[k]?.getD 0))
theorem IntsAt.below {w w' : World} {a : Option Addr} {zs : List Int} (h : IntsAt w a zs) (g : Below w.heap.size w w') : IntsAt w' a zs := by
  intro k hk
  obtain ⟨b, off, e, hb, hc⟩ := h k hk
  exact ⟨b, off, e, Nat.lt_of_lt_of_le hb g.size, by rw [g.cell (p := ⟨b, off + k, none⟩) hb]; exact hc⟩
theorem IntsAt.alloc {w : World} {a : Option Addr} {zs : List Int} (h : IntsAt w a zs) (o : Obj) : IntsAt (w.alloc o) a zs :=
  h.below ((Below.refl _ _).alloc (Nat.le_refl _) _)
theorem IntsAt.nil (w : World) (a : Option Addr) : IntsAt w a [] := by intro k hk; simp at hk
/-- A frame as a value. -/
def Fr.val (f : Fr) (a : Option Addr) (cap : Nat) : Value :=
  .agg #[.int .i64 f.to, .int .i64 f.frm, .slice a f.tags.length cap, .int .i64 f.src, .int .i64 f.dst, .int .i64 f.proto, .int .i64 f.sport, .int .i64 f.dport, .int .i64 f.mark, .int .i64 f.sum, .string f.body]
theorem ints_new (w : World) (t : TypeId) (zs : List Int) (cs : Array Value) (B : Nat) (hB : B = w.heap.size) (h : cs = (zs.map (Value.int .i64)).toArray) : IntsAt (w.alloc (.cells cs t)) (some ⟨B, 0, none⟩) zs := by
  subst hB; subst h
  intro k hk
  refine ⟨_, _, rfl, by simp, ?_⟩
  rw [World.cell?_alloc_new w _ _ (0 + k)]
  simp [List.getElem?_eq_getElem hk]
theorem bel_alloc {B : Nat} {w w' : World} (h : Below B w w') (hB : B ≤ w.heap.size) (o : Obj) : Below B w (w'.alloc o) := h.alloc (Nat.le_trans hB h.size) o
end Go.Proofs.Ytfkkmjejmflgjaa

/-
  A record of 4 numbers (Purse) as plain data. By the verifier, by program.
-/
namespace Go.Proofs.Ytfkkmjejmflgjaa
open Go.RowKit

structure Pz where
  rate : Int
  burst : Int
  level : Int
  tm : Int
/-- As a value. -/
def Pz.val (r : Pz) : Value := .agg #[.int .i64 r.rate, .int .i64 r.burst, .int .i64 r.level, .int .i64 r.tm]
/-- Its cells. -/
def Pz.cells (r : Pz) : List Value := [.int .i64 r.rate, .int .i64 r.burst, .int .i64 r.level, .int .i64 r.tm]
end Go.Proofs.Ytfkkmjejmflgjaa

/-
  A record of 3 numbers (Steer) as plain data. By the verifier, by program.
-/
namespace Go.Proofs.Ytfkkmjejmflgjaa
open Go.RowKit

structure Sr where
  target : Int
  old : Int
  prob : Int
/-- As a value. -/
def Sr.val (r : Sr) : Value := .agg #[.int .i64 r.target, .int .i64 r.old, .int .i64 r.prob]
/-- Its cells. -/
def Sr.cells (r : Sr) : List Value := [.int .i64 r.target, .int .i64 r.old, .int .i64 r.prob]
theorem srInfo : (Try.prog.info? 53).map (fun i => (i.zero, i.size, i.bytes)) = some (some (.agg #[.int .i64 0, .int .i64 0, .int .i64 0]), 3, 24) := by kernel_rfl
end Go.Proofs.Ytfkkmjejmflgjaa

/-
  A record of 3 numbers (Steer) as plain data, and cells that hold a list of them. By the verifier, by program.
-/
namespace Go.Proofs.Ytfkkmjejmflgjaa
open Go.RowKit
/-- The one at a place. -/
def srAt (l : List Sr) (k : Nat) : Sr := l[k]?.getD ⟨0, 0, 0⟩
/-- Cells that hold these. -/
def SrsAt (w : World) (a : Option Addr) (l : List Sr) : Prop :=
  ∀ k, k < l.length → ∃ b off, a = some ⟨b, off, none⟩ ∧ b < w.heap.size ∧ w.cell? ⟨b, off + k * 3, none⟩ = some (.int .i64 (srAt l k).target) ∧ w.cell? ⟨b, off + k * 3 + 1, none⟩ = some (.int .i64 (srAt l k).old) ∧ w.cell? ⟨b, off + k * 3 + 2, none⟩ = some (.int .i64 (srAt l k).prob)
theorem SrsAt.below {w w' : World} {a : Option Addr} {l : List Sr} (h : SrsAt w a l) (g : Below w.heap.size w w') : SrsAt w' a l := by
  intro k hk
  obtain ⟨b, off, e, hb, c0, c1, c2⟩ := h k hk
  exact ⟨b, off, e, Nat.lt_of_lt_of_le hb g.size, by rw [g.cell (p := ⟨b, off + k * 3, none⟩) hb]; exact c0, by rw [g.cell (p := ⟨b, off + k * 3 + 1, none⟩) hb]; exact c1, by rw [g.cell (p := ⟨b, off + k * 3 + 2, none⟩) hb]; exact c2⟩
theorem SrsAt.alloc {w : World} {a : Option Addr} {l : List Sr} (h : SrsAt w a l) (o : Obj) : SrsAt (w.alloc o) a l :=
  h.below ((Below.refl _ _).alloc (Nat.le_refl _) _)
theorem SrsAt.drew {w : World} {a : Option Addr} {l : List Sr} (h : SrsAt w a l) : SrsAt w.drew a l := h.below (Below.refl _ _).drew
theorem SrsAt.nil (w : World) (a : Option Addr) : SrsAt w a [] := by intro k hk; simp at hk
theorem SrsAt.empty {w : World} {l : List Sr} (h : SrsAt w none l) : l = [] := by
  cases l with
  | nil => rfl
  | cons z zs => obtain ⟨b, off, e, _⟩ := h 0 (by simp); cases e
theorem SrsAt.cells {w : World} {b off k : Nat} {l : List Sr} (h : SrsAt w (some ⟨b, off, none⟩) l) (hk : k < l.length) : w.cell? ⟨b, off + k * 3, none⟩ = some (.int .i64 (srAt l k).target) ∧ w.cell? ⟨b, off + k * 3 + 1, none⟩ = some (.int .i64 (srAt l k).old) ∧ w.cell? ⟨b, off + k * 3 + 2, none⟩ = some (.int .i64 (srAt l k).prob) := by
  obtain ⟨b', off', e, _, c⟩ := h k hk
  cases e
  exact c
/-- The cells of a list. -/
def srcells (l : List Sr) : List Value := l.flatMap Sr.cells
theorem srcells_cons (r : Sr) (l : List Sr) : srcells (r :: l) = .int .i64 r.target :: .int .i64 r.old :: .int .i64 r.prob :: srcells l := rfl
theorem srcells_append (a b : List Sr) : srcells (a ++ b) = srcells a ++ srcells b := by simp [srcells]
theorem srcells_length (l : List Sr) : (srcells l).length = l.length * 3 := by
  induction l with
  | nil => rfl
  | cons r l ih => rw [srcells_cons]; simp [ih]; omega
theorem srcells_get (l : List Sr) (k : Nat) (hk : k < l.length) : (srcells l)[k * 3]? = some (.int .i64 (srAt l k).target) ∧ (srcells l)[k * 3 + 1]? = some (.int .i64 (srAt l k).old) ∧ (srcells l)[k * 3 + 2]? = some (.int .i64 (srAt l k).prob) := by
  induction l generalizing k with
  | nil => simp at hk
  | cons r l ih =>
    cases k with
    | zero => simp [srcells_cons, srAt]
    | succ k =>
      have := ih k (by simpa using hk)
      rw [show (k + 1) * 3 = k * 3 + 3 by omega]
      simpa [srcells_cons, srAt] using this
theorem srcells_one (l : List Sr) : ∀ u ∈ srcells l, u.oneCell' = true := by
  intro u hu
  induction l with
  | nil => simp [srcells] at hu
  | cons r l ih =>
    rw [srcells_cons] at hu
    simp only [List.mem_cons] at hu
    rcases hu with rfl | rfl | rfl | hu
    · rfl
    · rfl
    · rfl
    · exact ih hu
theorem srcells_set (l : List Sr) (k : Nat) (r : Sr) : (((srcells l).set (k * 3) (.int .i64 r.target)).set (k * 3 + 1) (.int .i64 r.old)).set (k * 3 + 2) (.int .i64 r.prob) = srcells (l.set k r) := by
  induction l generalizing k with
  | nil => simp [srcells]
  | cons x l ih =>
    cases k with
    | zero => simp [srcells_cons]
    | succ k =>
      rw [show (k + 1) * 3 = k * 3 + 3 by omega, List.set_cons_succ, srcells_cons, srcells_cons, ← ih k]
      rfl
/-- A list of the call's own. -/
def SrRow (base : Nat) (w : World) (v : Value) (l : List Sr) : Prop := w.ownsRow base 53 3 v l.length (srcells l)
theorem SrRow.carry {base : Nat} {w w' : World} {v : Value} {l : List Sr} (h : SrRow base w v l) (g : ∀ k, v.ownBlock = some k → k < w.heap.size → w'.heap[k]? = w.heap[k]?) : SrRow base w' v l := by
  refine ⟨h.1, h.2.imp id ?_⟩
  rintro ⟨g0, cap, cur, h1, h2, h3, h4⟩
  exact ⟨g0, cap, cur, h1, h2, by rw [g g0 (by rw [h1]; rfl) (Array.getElem?_eq_some_iff.1 h3).1]; exact h3, h4⟩
theorem SrRow.below {base n : Nat} {w w' : World} {v : Value} {l : List Sr} (h : SrRow base w v l) (hn : ∀ k, v.ownBlock = some k → k < n) (g : Below n w w') : SrRow base w' v l :=
  h.carry fun k hk _ => g.block k (hn k hk)
theorem SrRow.shape {base : Nat} {w : World} {v : Value} {l : List Sr} (h : SrRow base w v l) : ∃ a cap, v = .slice a l.length cap := by
  rcases h.2 with ⟨rfl, hn⟩ | ⟨g, cap, cur, rfl, _⟩
  · rw [hn]; exact ⟨none, 0, rfl⟩
  · exact ⟨_, _, rfl⟩
theorem SrRow.cap {base : Nat} {w : World} {a : Option Addr} {c : Nat} {l : List Sr} (h : SrRow base w (.slice a l.length c) l) : l.length ≤ c := by
  rcases h.2 with ⟨e, hn⟩ | ⟨g', c', cur, e, _, _, h4, _⟩
  · omega
  · cases e; exact h4
theorem SrRow.nilCap {base : Nat} {w : World} {a : Option Addr} {c : Nat} {l : List Sr} (h : SrRow base w (.slice a l.length c) l) : a = none → c = 0 := by
  intro ha
  subst ha
  rcases h.2 with ⟨e, hn⟩ | ⟨g', c', cur, e, _⟩
  · simpa using (Value.slice.inj e).2.2
  · cases e
theorem SrRow.lt {base : Nat} {w : World} {v : Value} {l : List Sr} (h : SrRow base w v l) : ∀ k, v.ownBlock = some k → base ≤ k ∧ k < w.heap.size := World.ownsRow.lt h
theorem SrRow.alloc {base : Nat} {w : World} {v : Value} {l : List Sr} (h : SrRow base w v l) (o : Obj) : SrRow base (w.alloc o) v l := World.ownsRow.alloc h o
theorem SrRow.drew {base : Nat} {w : World} {v : Value} {l : List Sr} (h : SrRow base w v l) : SrRow base w.drew v l := h
theorem SrRow.mono {base base' : Nat} {w : World} {v : Value} {l : List Sr} (h : SrRow base w v l) (hb : base' ≤ base) : SrRow base' w v l := ⟨h.1, h.2.imp id fun ⟨g, cap, cur, h1, h2, h3⟩ => ⟨g, cap, cur, h1, Nat.le_trans hb h2, h3⟩⟩
theorem SrRow.at {base : Nat} {w : World} {a : Option Addr} {cap : Nat} {l : List Sr} (h : SrRow base w (.slice a l.length cap) l) : SrsAt w a l := by
  intro k hk
  rcases h.2 with ⟨_, hn⟩ | ⟨g, cap', cur, e, h2, h3, h4⟩
  · omega
  · obtain ⟨rfl, _, rfl⟩ : a = some ⟨g, 0, none⟩ ∧ True ∧ cap = cap' := by simpa using e
    have hc := World.ownsRow.cellAt (show w.ownsRow base 53 3 (.slice (some ⟨g, 0, none⟩) l.length cap) l.length _ from h)
    obtain ⟨e0, e1, e2⟩ := srcells_get l k hk
    exact ⟨g, 0, rfl, (Array.getElem?_eq_some_iff.1 h3).1, by rw [Nat.zero_add, hc _ (by omega), e0], by rw [Nat.zero_add, hc _ (by omega), e1], by rw [Nat.zero_add, hc _ (by omega), e2]⟩
/-- One of them put. -/
theorem SrRow.put {base : Nat} {w : World} {g cap n : Nat} {l : List Sr} (h : w.ownsRow base 53 3 (.slice (some ⟨g, 0, none⟩) n cap) n (srcells l)) (k : Nat) (r : Sr) :
    (((w.setCell ⟨g, k * 3, none⟩ (.int .i64 r.target)).setCell ⟨g, k * 3 + 1, none⟩ (.int .i64 r.old)).setCell ⟨g, k * 3 + 2, none⟩ (.int .i64 r.prob)).ownsRow base 53 3 (.slice (some ⟨g, 0, none⟩) n cap) n (srcells (l.set k r)) := by
  have h1 := (h.stored (k * 3) (.int .i64 r.target)).1
  have h2 := (h1.stored (k * 3 + 1) (.int .i64 r.old)).1
  have h3 := (h2.stored (k * 3 + 2) (.int .i64 r.prob)).1
  rw [srcells_set] at h3
  exact h3
theorem srMade (n : Nat) : (madeCells #[Value.int .i64 0, .int .i64 0, .int .i64 0] (n * 3)).toList = srcells (List.replicate n ⟨0, 0, 0⟩) := by
  apply List.ext_getElem?
  intro i
  by_cases hi : i < n * 3
  · obtain ⟨k, j, rfl, hj⟩ : ∃ k j, i = k * 3 + j ∧ j < 3 := ⟨i / 3, i % 3, by omega, Nat.mod_lt _ (by omega)⟩
    have hk : k < n := by omega
    obtain ⟨e0, e1, e2⟩ := srcells_get (List.replicate n ⟨0, 0, 0⟩) k (by simpa using hk)
    have hz : srAt (List.replicate n ⟨0, 0, 0⟩) k = ⟨0, 0, 0⟩ := by simp [srAt, hk]
    rw [hz] at e0 e1 e2
    have hm : (k * 3 + j) % 3 = j := by omega
    have hL : (madeCells #[Value.int .i64 0, .int .i64 0, .int .i64 0] (n * 3)).toList[k * 3 + j]? = some (.int .i64 0) := by
      simp [madeCells, hi, hm]
      match j, hj with
      | 0, _ => rfl
      | 1, _ => rfl
      | 2, _ => rfl
    rw [hL]
    match j, hj with
    | 0, _ => exact e0.symm
    | 1, _ => exact e1.symm
    | 2, _ => exact e2.symm
  · rw [List.getElem?_eq_none (by simp [madeCells]; omega), List.getElem?_eq_none (by rw [srcells_length]; simp; omega)]
end Go.Proofs.Ytfkkmjejmflgjaa

/-
  Lines as plain data: what a size takes on one, and the greatest that fits a room. By the verifier.
-/
namespace Go.Proofs.Ytfkkmjejmflgjaa
open Go.RowKit

structure Ln where
  kind : Int
  extra : Int
  least : Int
/-- As a value. -/
def Ln.val (r : Ln) : Value := .agg #[.int .i64 r.kind, .int .i64 r.extra, .int .i64 r.least]
/-- Its cells. -/
def Ln.cells (r : Ln) : List Value := [.int .i64 r.kind, .int .i64 r.extra, .int .i64 r.least]
/-- A right line. -/
def Ln.ok (l : Ln) : Bool := inB 1 3 l.kind && (inB 0 100 l.extra && inB 0 2000 l.least)
theorem Ln.ok_iff {l : Ln} : l.ok = true ↔ (1 ≤ l.kind ∧ l.kind ≤ 3) ∧ (0 ≤ l.extra ∧ l.extra ≤ 100) ∧ (0 ≤ l.least ∧ l.least ≤ 2000) := by
  simp [Ln.ok, inB]
/-- What is carried of n. -/
def Ln.carry (l : Ln) (n : Int) : Int := if n + l.extra < l.least then l.least else n + l.extra
/-- What so much takes, by its kind. -/
def takeK (k c : Int) : Int := if k = 2 then (c + 47) / 48 * 53 else if k = 3 then c + (c + 63) / 64 else c
/-- What n takes on the line. -/
def Ln.takes (l : Ln) (n : Int) : Int := takeK l.kind (l.carry n)
theorem carry_le {l : Ln} (h : l.ok = true) (n : Int) : 0 ≤ l.carry n ∧ n ≤ l.carry n := by
  have := Ln.ok_iff.1 h
  unfold Ln.carry; split <;> omega
theorem carry_most {l : Ln} (h : l.ok = true) {n : Int} (n1 : n ≤ 100000) : l.carry n ≤ 100100 := by
  have := Ln.ok_iff.1 h
  unfold Ln.carry; split <;> omega
/-- What OnLine tells. -/
def Ln.on (l : Ln) (n : Int) : Int := if (l.ok && inB 0 100000 n) = true then l.takes n else -1
/-- r is the greatest up to 100000 that fits the room. -/
def Great (l : Ln) (room r : Int) : Prop := 0 ≤ r ∧ r ≤ 100000 ∧ l.takes r ≤ room ∧ ∀ n, r < n → n ≤ 100000 → room < l.takes n
theorem Great.one {l : Ln} {room r s : Int} (h : Great l room r) (g : Great l room s) : r = s := by
  apply Classical.byContradiction
  intro hn
  rcases Int.lt_or_gt_of_ne hn with hlt | hlt
  · have := h.2.2.2 s hlt g.2.1; have := g.2.2.1; omega
  · have := g.2.2.2 r hlt h.2.1; have := h.2.2.1; omega
/-- A room that something fits. -/
def Ln.room (l : Ln) (room : Int) : Bool := (l.ok && inB 0 100000 room) && decide (l.takes 0 ≤ room)
/-- What OffLine tells. -/
def Off (l : Ln) (room r : Int) : Prop := if l.room room = true then Great l room r else r = -1
theorem Off.one {l : Ln} {room r s : Int} (h : Off l room r) (g : Off l room s) : r = s := by
  unfold Off at h g
  split at h
  · next e => rw [if_pos e] at g; exact h.one g
  · next e => rw [if_neg e] at g; rw [h, g]
end Go.Proofs.Ytfkkmjejmflgjaa

/-
  Purses as plain data: when one is right, filled, spent, and when there is so much. By the verifier.
-/
namespace Go.Proofs.Ytfkkmjejmflgjaa
open Go.RowKit

/-- A right purse. -/
def Pz.ok (p : Pz) : Bool := inB 0 1000 p.rate && (inB 1 100000 p.burst && (inB 0 p.burst p.level && inB 0 1099511627776 p.tm))
theorem Pz.ok_iff {p : Pz} : p.ok = true ↔ (0 ≤ p.rate ∧ p.rate ≤ 1000) ∧ (1 ≤ p.burst ∧ p.burst ≤ 100000) ∧ (0 ≤ p.level ∧ p.level ≤ p.burst) ∧ (0 ≤ p.tm ∧ p.tm ≤ 1099511627776) := by
  unfold Pz.ok
  simp only [Bool.and_eq_true, inB_true]
/-- Filled, at a time that is right. -/
def Pz.fill (p : Pz) (now : Int) : Pz := ⟨p.rate, p.burst, min p.burst (p.level + p.rate * (now - p.tm)), now⟩
def Pz.may (p : Pz) (now n : Int) : Bool := decide (0 ≤ n) && decide (n ≤ (p.fill now).level)
/-- The time at which there is so much. -/
def Pz.whenL (p : Pz) (n : Int) : Int := if n ≤ p.level then p.tm else if p.rate = 0 ∨ p.burst < n then -1 else if 1099511627776 < p.tm + (n - p.level + p.rate - 1) / p.rate then -1 else p.tm + (n - p.level + p.rate - 1) / p.rate
def Pz.when (p : Pz) (n : Int) : Int := if p.ok = true ∧ 0 ≤ n then p.whenL n else -1
end Go.Proofs.Ytfkkmjejmflgjaa

/-
  Steers as plain data: when one is right, stirred, hit, and stirred many times. By the verifier.
-/
namespace Go.Proofs.Ytfkkmjejmflgjaa
open Go.RowKit

/-- A right steer. -/
def Sr.ok (p : Sr) : Bool := inB 1 1000 p.target && (inB 0 100000 p.old && inB 0 1048576 p.prob)
theorem Sr.ok_iff {p : Sr} : p.ok = true ↔ (1 ≤ p.target ∧ p.target ≤ 1000) ∧ (0 ≤ p.old ∧ p.old ≤ 100000) ∧ (0 ≤ p.prob ∧ p.prob ≤ 1048576) := by
  unfold Sr.ok
  simp only [Bool.and_eq_true, inB_true]
/-- What is added, ahead of the divisor. -/
def Sr.add (p : Sr) (d : Int) : Int := (d - p.target) * 2 + (d - p.old) * 20
def Sr.hit (p : Sr) (x : Int) : Bool := p.ok && (inB 0 1048575 x && decide (x < p.prob))
end Go.Proofs.Ytfkkmjejmflgjaa
