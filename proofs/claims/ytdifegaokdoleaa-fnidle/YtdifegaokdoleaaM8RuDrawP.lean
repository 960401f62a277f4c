import Derived.Test.YtdifegaokdoleaaRuPlain
import Derived.Test.YtdifegaokdoleaaRuDrawR
import Derived.Test.YtdifegaokdoleaaRuApp
import Derived.Test.YtdifegaokdoleaaM5RtFitL
import Derived.Test.YtdifegaokdoleaaRegPick
import Derived.Test.YtdifegaokdoleaaM7RuFn
import Derived.BigQuiet
/-
  Parts of lists of rules. By the verifier.
-/
namespace Go.Proofs.Ytdifegaokdoleaa
open Go.RowKit

theorem rus_take {w : World} {a : Option Addr} {l : List Ru} (h : RusAt w a l) (k : Nat) : RusAt w a (l.take k) := by
  intro i hi
  have hi' : i < l.length := by simp at hi; omega
  have hk : i < k := by simp at hi; omega
  obtain ⟨b, off, e, hb, c⟩ := h i hi'
  have er : ruAt (l.take k) i = ruAt l i := by simp [ruAt, hk]
  rw [er]
  exact ⟨b, off, e, hb, c⟩
theorem rus_drop {w : World} {b off : Nat} {l : List Ru} (h : RusAt w (some ⟨b, off, none⟩) l) (k : Nat) : RusAt w (some ⟨b, off + k * 10, none⟩) (l.drop k) := by
  intro i hi
  have hi' : k + i < l.length := by simp at hi; omega
  obtain ⟨b', off', e, hb, c⟩ := h (k + i) hi'
  cases e
  have er : ruAt (l.drop k) i = ruAt l (k + i) := by simp [ruAt]
  rw [er]
  refine ⟨b, off + k * 10, rfl, hb, ?_⟩
  rw [show off + k * 10 + i * 10 = off + (k + i) * 10 by omega]
  exact c
end Go.Proofs.Ytdifegaokdoleaa

/-
  What is known of a rule put into a list by three appends, in whatever order. By the verifier, by program.
-/
namespace Go.Proofs.Ytdifegaokdoleaa
open Go.RowKit

def upPr (base : Nat) (W : World) (S : Value) (v2 : Value) (r : Ru) (l : List Ru) (k : Nat) : Nat → World → Value → Prop := fun i w v =>
  if i = 0 then RuRow base w v [] ∧ ∃ g0, v = .slice (some ⟨g0, 0, none⟩) 0 0 else if i = 1 then v = S else if i = 2 then v = .int .i64 (k : Int)
  else if i = 3 then ∃ a c, v = .slice a k c ∧ a ≠ none ∧ RusAt W a (l.take k) else if i = 4 then RuRow base w v (l.take k) ∧ v ≠ .slice none 0 0 else if i = 5 then v = r.val
  else if i = 6 then ∃ b, v = .slice (some ⟨b, 0, none⟩) 1 1 ∧ Boxed w b #[.int .i64 r.id, .int .i64 r.prio, .int .i64 r.snet, .int .i64 r.sbits, .int .i64 r.dnet, .int .i64 r.dbits, .int .i64 r.proto, .int .i64 r.low, .int .i64 r.high, .int .i64 r.cls] 32 else if i = 7 then RuRow base w v (l.take k ++ [r]) ∧ v ≠ .slice none 0 0
  else if i = 8 then v = v2 else RuRow base w v (l.take k ++ [r] ++ l.drop k) ∧ v ≠ .slice none 0 0
def upR (base : Nat) : Nat → World → World → Prop := fun i w w' => if i = 4 then ∀ k, k < w.heap.size → w.heap[k]? ≠ some (.cells #[] 32) → w'.heap[k]? = w.heap[k]? else if i = 7 ∨ i = 9 then Below base w w' else (w' = w ∨ ∃ o, w' = w.alloc o)
def upUse : Nat → Nat := fun j => if j = 0 then 4 else if j = 4 then 7 else if j = 6 then 7 else if j = 7 then 9 else 11
theorem rus_of_box {w : World} {b : Nat} {r : Ru} (h : Boxed w b #[.int .i64 r.id, .int .i64 r.prio, .int .i64 r.snet, .int .i64 r.sbits, .int .i64 r.dnet, .int .i64 r.dbits, .int .i64 r.proto, .int .i64 r.low, .int .i64 r.high, .int .i64 r.cls] 32) : RusAt w (some ⟨b, 0, none⟩) [r] := by
  intro k hk
  obtain rfl : k = 0 := by simpa using hk
  exact ⟨b, 0, rfl, h.under, h.cell 0 rfl, h.cell 1 rfl, h.cell 2 rfl, h.cell 3 rfl, h.cell 4 rfl, h.cell 5 rfl, h.cell 6 rfl, h.cell 7 rfl, h.cell 8 rfl, h.cell 9 rfl⟩
theorem ru_row_empty {base : Nat} {w : World} {g : Nat} (h : RuRow base w (.slice (some ⟨g, 0, none⟩) 0 0) []) : w.heap[g]? = some (.cells #[] 32) := by
  rcases h.2 with ⟨e, _⟩ | ⟨g', cap, cur, e, _, hg, _, _, hs, _⟩
  · cases e
  · cases e
    have hc : cur = #[] := Array.eq_empty_of_size_eq_zero (by simpa using hs)
    rw [hg, hc]
theorem no_so {p : Prop} {b : Bool} (h1 : b = false) (h2 : b = true) : p := by rw [h1] at h2; cases h2
/-- The call's own memory: the list that is drawn, the cursor. -/
structure DrLU (W : World) (bc : Nat) (ac : Option Addr) (len cap : Nat) (w : World) (v : Value) (L : List Ru) (wr : World) : Prop where
  row : RuRow w.heap.size wr v L
  cur : Cur W bc ac len cap wr
  kp : Keep bc w wr
  bl : bc < w.heap.size
theorem DrLU.draw {W : World} {bc : Nat} {ac : Option Addr} {len cap : Nat} {w : World} {v : Value} {L : List Ru} {wr wd : World} (h : DrLU W bc ac len cap w v L wr) (c : Cur W bc ac len cap wd) (k : Keep bc wr wd) : DrLU W bc ac len cap w v L wd := by
  have := h.bl
  exact ⟨h.row.carry fun i hi hl => k.block i (by have := h.row.lt i hi; omega) hl, c, h.kp.trans k, h.bl⟩
theorem DrLU.more {W : World} {bc : Nat} {ac : Option Addr} {len cap : Nat} {w : World} {v : Value} {L : List Ru} {wr : World} (h : DrLU W bc ac len cap w v L wr) (o : Obj) : DrLU W bc ac len cap w v L (wr.alloc o) :=
  h.draw (h.cur.alloc _) ((Keep.refl _ _).alloc _)
theorem DrLU.grow {W : World} {bc : Nat} {ac : Option Addr} {len cap : Nat} {w : World} {v : Value} {L : List Ru} {v' : Value} {L' : List Ru} {wr wd : World} (h : DrLU W bc ac len cap w v L wr) (g : Below w.heap.size wr wd) (r : RuRow w.heap.size wd v' L') : DrLU W bc ac len cap w v' L' wd :=
  ⟨r, h.cur.below h.bl g, ⟨Nat.le_trans h.kp.size g.size, fun k h1 h2 => (g.block k h2).trans (h.kp.block k h1 h2)⟩, h.bl⟩
theorem DrLU.below {W : World} {bc : Nat} {ac : Option Addr} {len cap : Nat} {w : World} {v : Value} {L : List Ru} {wr wd : World} (h : DrLU W bc ac len cap w v L wr) (g : Below wr.heap.size wr wd) : DrLU W bc ac len cap w v L wd :=
  h.grow (g.mono h.kp.size) (h.row.below (fun k hk => (h.row.lt k hk).2) g)
end Go.Proofs.Ytdifegaokdoleaa
