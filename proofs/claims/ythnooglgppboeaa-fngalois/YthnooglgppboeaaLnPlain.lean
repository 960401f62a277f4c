/-
  Lines as plain data: what a size takes on one, and the greatest that fits a room. By the verifier.
-/
import Derived.RowKit3
import Derived.Below
import Derived.Test.YthnooglgppboeaaFrPlain
namespace Go.Proofs.Ythnooglgppboeaa
open Go.RowKit

structure Ln where
  kind : Int
  extra : Int
  least : Int
/-- As a value. -/
def Ln.val (r : Ln) : Value := .agg #[.int .i64 r.kind, .int .i64 r.extra, .int .i64 r.least]
/-- Its cells. -/
def Ln.cells (r : Ln) : List Value := [.int .i64 r.kind, .int .i64 r.extra, .int .i64 r.least]
/-- A right line. -/
def Ln.ok (l : Ln) : Bool := inB 1 3 l.kind && (inB 0 100 l.extra && inB 0 2000 l.least)
theorem Ln.ok_iff {l : Ln} : l.ok = true ↔ (1 ≤ l.kind ∧ l.kind ≤ 3) ∧ (0 ≤ l.extra ∧ l.extra ≤ 100) ∧ (0 ≤ l.least ∧ l.least ≤ 2000) := by
  simp [Ln.ok, inB]
/-- What is carried of n. -/
def Ln.carry (l : Ln) (n : Int) : Int := if n + l.extra < l.least then l.least else n + l.extra
/-- What so much takes, by its kind. -/
def takeK (k c : Int) : Int := if k = 2 then (c + 47) / 48 * 53 else if k = 3 then c + (c + 63) / 64 else c
/-- What n takes on the line. -/
def Ln.takes (l : Ln) (n : Int) : Int := takeK l.kind (l.carry n)
theorem carry_mono {l : Ln} {n m : Int} (h : n ≤ m) : l.carry n ≤ l.carry m := by unfold Ln.carry; split <;> split <;> omega
theorem carry_le {l : Ln} (h : l.ok = true) (n : Int) : 0 ≤ l.carry n ∧ n ≤ l.carry n := by
  have := Ln.ok_iff.1 h
  unfold Ln.carry; split <;> omega
theorem carry_most {l : Ln} (h : l.ok = true) {n : Int} (n1 : n ≤ 100000) : l.carry n ≤ 100100 := by
  have := Ln.ok_iff.1 h
  unfold Ln.carry; split <;> omega
theorem takeK_mono {k c d : Int} (h : c ≤ d) : takeK k c ≤ takeK k d := by
  unfold takeK; split
  · omega
  · split <;> omega
theorem takeK_le {k c : Int} (h : 0 ≤ c) : c ≤ takeK k c := by
  unfold takeK; split
  · omega
  · split <;> omega
theorem takes_mono {l : Ln} {n m : Int} (h : n ≤ m) : l.takes n ≤ l.takes m := takeK_mono (carry_mono h)
theorem takes_le {l : Ln} (h : l.ok = true) (n : Int) : n ≤ l.takes n :=
  Int.le_trans (carry_le h n).2 (takeK_le (carry_le h n).1)
/-- What OnLine tells. -/
def Ln.on (l : Ln) (n : Int) : Int := if (l.ok && inB 0 100000 n) = true then l.takes n else -1
theorem on_ok {l : Ln} {n : Int} (h : l.ok = true) (g : inB 0 100000 n = true) : l.on n = l.takes n := by simp [Ln.on, h, g]
theorem on_no {l : Ln} {n : Int} (h : (l.ok && inB 0 100000 n) = false) : l.on n = -1 := by simp [Ln.on, h]
/-- r is the greatest up to 100000 that fits the room. -/
def Great (l : Ln) (room r : Int) : Prop := 0 ≤ r ∧ r ≤ 100000 ∧ l.takes r ≤ room ∧ ∀ n, r < n → n ≤ 100000 → room < l.takes n
theorem Great.one {l : Ln} {room r s : Int} (h : Great l room r) (g : Great l room s) : r = s := by
  apply Classical.byContradiction
  intro hn
  rcases Int.lt_or_gt_of_ne hn with hlt | hlt
  · have := h.2.2.2 s hlt g.2.1; have := g.2.2.1; omega
  · have := g.2.2.2 r hlt h.2.1; have := h.2.2.1; omega
theorem Great.iff {l : Ln} {room r n : Int} (h : Great l room r) (n1 : n ≤ 100000) : n ≤ r ↔ l.takes n ≤ room := by
  constructor
  · intro hn
    exact Int.le_trans (takes_mono hn) h.2.2.1
  · intro hn
    apply Classical.byContradiction
    intro hlt
    have := h.2.2.2 n (by omega) n1
    omega
/-- Between these lies it. -/
def Amid (l : Ln) (room lo hi : Int) : Prop := l.takes lo ≤ room ∧ ∀ n, hi < n → n ≤ 100000 → room < l.takes n
theorem amid_start {l : Ln} {room : Int} (h : l.takes 0 ≤ room) : Amid l room 0 100000 := ⟨h, fun n h1 h2 => by omega⟩
theorem amid_up {l : Ln} {room lo hi m : Int} (b : Amid l room lo hi) (hm : l.takes m ≤ room) : Amid l room m hi := ⟨hm, b.2⟩
theorem amid_down {l : Ln} {room lo hi m : Int} (b : Amid l room lo hi) (hm : room < l.takes m) : Amid l room lo (m - 1) :=
  ⟨b.1, fun n h1 _ => Int.lt_of_lt_of_le hm (takes_mono (by omega))⟩
theorem amid_end {l : Ln} {room lo hi : Int} (b : Amid l room lo hi) (l0 : 0 ≤ lo) (hl : lo ≤ hi) (hh : hi ≤ 100000) (hge : hi ≤ lo) : Great l room lo := by
  have : hi = lo := by omega
  subst this
  exact ⟨l0, hh, b.1, b.2⟩
/-- A room that something fits. -/
def Ln.room (l : Ln) (room : Int) : Bool := (l.ok && inB 0 100000 room) && decide (l.takes 0 ≤ room)
/-- What OffLine tells. -/
def Off (l : Ln) (room r : Int) : Prop := if l.room room = true then Great l room r else r = -1
theorem Off.one {l : Ln} {room r s : Int} (h : Off l room r) (g : Off l room s) : r = s := by
  unfold Off at h g
  split at h
  · next e => rw [if_pos e] at g; exact h.one g
  · next e => rw [if_neg e] at g; rw [h, g]
theorem off_no {l : Ln} {room : Int} (h : l.room room = false) : Off l room (-1) := by unfold Off; rw [if_neg (by rw [h]; simp)]
theorem off_ok {l : Ln} {room r : Int} (h : l.room room = true) (g : Great l room r) : Off l room r := by unfold Off; rw [if_pos h]; exact g
end Go.Proofs.Ythnooglgppboeaa
