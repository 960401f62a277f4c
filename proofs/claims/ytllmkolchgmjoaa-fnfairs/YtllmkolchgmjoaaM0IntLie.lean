import Derived.RowKit3
import Derived.Below
import Derived.Test.YtllmkolchgmjoaaRows
import Derived.WalkKit
import Derived.WalkSpells
import Derived.WalkLawsBesides
import Derived.Laws.AppendOwn
import Derived.Laws.OwnMore
import Derived.Laws.AppendOwnNone
import Derived.Lib.SliceRun
import Derived.Test.YtllmkolchgmjoaaSlIn
/-
  Frames as plain data: which are right, and the bytes that are shown ahead of a body. By the verifier.
-/
namespace Go.Proofs.Ytllmkolchgmjoaa
open Go.RowKit

/-- A frame: its numbers, its tags, its body. -/
structure Fr where
  to : Int
  frm : Int
  tags : List Int
  src : Int
  dst : Int
  proto : Int
  sport : Int
  dport : Int
  mark : Int
  sum : Int
  body : ByteArray

/-- From lo to hi. -/
def inB (lo hi n : Int) : Bool := decide (lo ≤ n ∧ n ≤ hi)
theorem inB_true {lo hi n : Int} : inB lo hi n = true ↔ lo ≤ n ∧ n ≤ hi := by simp [inB]
theorem inB_false {lo hi n : Int} : inB lo hi n = false ↔ n < lo ∨ hi < n := by simp [inB]; omega

/-- A right frame. -/
def Fr.Ok (f : Fr) : Prop :=
  (0 ≤ f.to ∧ f.to ≤ 65535) ∧ (0 ≤ f.frm ∧ f.frm ≤ 65535) ∧ f.tags.length ≤ 2 ∧ (0 ≤ f.src ∧ f.src ≤ 4294967295) ∧ (0 ≤ f.dst ∧ f.dst ≤ 4294967295) ∧
  (0 ≤ f.proto ∧ f.proto ≤ 255) ∧ (0 ≤ f.sport ∧ f.sport ≤ 65535) ∧ (0 ≤ f.dport ∧ f.dport ≤ 65535) ∧ (0 ≤ f.mark ∧ f.mark ≤ 3) ∧ (0 ≤ f.sum ∧ f.sum ≤ 65535) ∧
  f.body.size ≤ 1500 ∧ f.tags.all (inB 0 4095) = true
def Fr.okDec (f : Fr) : Decidable f.Ok := by unfold Fr.Ok; exact inferInstance
/-- As a flag. -/
def Fr.ok (f : Fr) : Bool := @decide f.Ok f.okDec
theorem Fr.ok_true {f : Fr} : f.ok = true ↔ f.Ok := @decide_eq_true_iff f.Ok f.okDec
theorem Fr.ok_false {f : Fr} : f.ok = false ↔ ¬ f.Ok := @decide_eq_false_iff_not f.Ok f.okDec

/-- n in k bytes, the highest first. -/
def be : Nat → Int → List Int
  | 0, _ => []
  | k + 1, n => (n / 256 ^ k % 256) :: be k n
theorem be_length (k : Nat) (n : Int) : (be k n).length = k := by induction k with
  | zero => rfl
  | succ k ih => simp [be, ih]
theorem be_byte (k : Nat) (n : Int) : ∀ x ∈ be k n, 0 ≤ x ∧ x ≤ 255 := by induction k with
  | zero => simp [be]
  | succ k ih =>
    intro x hx
    simp only [be, List.mem_cons] at hx
    rcases hx with rfl | hx
    · omega
    · exact ih x hx

/-- The tags as they are shown. -/
def tagBytes : List Int → List Int
  | [] => []
  | z :: r => 1 :: (be 2 z ++ tagBytes r)
theorem tagBytes_append (a b : List Int) : tagBytes (a ++ b) = tagBytes a ++ tagBytes b := by induction a with
  | nil => rfl
  | cons x r ih => simp [tagBytes, ih]
theorem tagBytes_length (a : List Int) : (tagBytes a).length = 3 * a.length := by induction a with
  | nil => rfl
  | cons x r ih => simp [tagBytes, ih, be_length]; omega
/-- Up to the tags' end. -/
def Fr.outer (f : Fr) : List Int := be 2 f.to ++ be 2 f.frm ++ tagBytes f.tags
/-- From the source on, ahead of the body. -/
def Fr.mid (f : Fr) : List Int :=
  be 4 f.src ++ be 4 f.dst ++ be 1 f.proto ++ be 2 f.sport ++ be 2 f.dport ++ be 1 f.mark ++ be 2 f.sum ++ be 2 f.body.size
/-- All that is shown ahead of the body. -/
def Fr.head (f : Fr) : List Int := f.outer ++ [2] ++ f.mid
theorem Fr.outer_length (f : Fr) : f.outer.length = 4 + 3 * f.tags.length := by simp [Fr.outer, be_length, tagBytes_length]; omega
theorem Fr.mid_length (f : Fr) : f.mid.length = 18 := by simp [Fr.mid, be_length]
theorem Fr.head_length (f : Fr) : f.head.length = 23 + 3 * f.tags.length := by simp [Fr.head, Fr.outer_length, Fr.mid_length]; omega

/-- Bytes as a text. -/
def strB (xs : List Int) : ByteArray := ⟨(xs.map fun n => UInt8.ofNat n.toNat).toArray⟩
/-- What a frame is shown as. -/
def Fr.show (f : Fr) : ByteArray := if f.ok then strB f.head ++ f.body else ByteArray.empty
/-- How long the head is. -/
def Fr.headSize (f : Fr) : Int := if f.ok then 23 + 3 * (f.tags.length : Int) else 0

/-- Cells that hold these numbers. -/
def IntsAt (w : World) (a : Option Addr) (zs : List Int) : Prop :=
  ∀ k, k < zs.length → ∃ b off, a = some ⟨b, off, none⟩ ∧ b < w.heap.size ∧ w.cell? ⟨b, off + k, none⟩ = some (.int .i64 (zs[k]?.getD 0))
theorem IntsAt.below {w w' : World} {a : Option Addr} {zs : List Int} (h : IntsAt w a zs) (g : Below w.heap.size w w') : IntsAt w' a zs := by
  intro k hk
  obtain ⟨b, off, e, hb, hc⟩ := h k hk
  exact ⟨b, off, e, Nat.lt_of_lt_of_le hb g.size, by rw [g.cell (p := ⟨b, off + k, none⟩) hb]; exact hc⟩
theorem IntsAt.alloc {w : World} {a : Option Addr} {zs : List Int} (h : IntsAt w a zs) (o : Obj) : IntsAt (w.alloc o) a zs :=
  h.below ((Below.refl _ _).alloc (Nat.le_refl _) _)
theorem IntsAt.nil (w : World) (a : Option Addr) : IntsAt w a [] := by intro k hk; simp at hk
/-- A frame as a value. -/
def Fr.val (f : Fr) (a : Option Addr) (cap : Nat) : Value :=
  .agg #[.int .i64 f.to, .int .i64 f.frm, .slice a f.tags.length cap, .int .i64 f.src, .int .i64 f.dst, .int .i64 f.proto, .int .i64 f.sport, .int .i64 f.dport, .int .i64 f.mark, .int .i64 f.sum, .string f.body]
theorem ints_new (w : World) (t : TypeId) (zs : List Int) (cs : Array Value) (B : Nat) (hB : B = w.heap.size) (h : cs = (zs.map (Value.int .i64)).toArray) : IntsAt (w.alloc (.cells cs t)) (some ⟨B, 0, none⟩) zs := by
  subst hB; subst h
  intro k hk
  refine ⟨_, _, rfl, by simp, ?_⟩
  rw [World.cell?_alloc_new w _ _ (0 + k)]
  simp [List.getElem?_eq_getElem hk]
theorem bel_alloc {B : Nat} {w w' : World} (h : Below B w w') (hB : B ≤ w.heap.size) (o : Obj) : Below B w (w'.alloc o) := h.alloc (Nat.le_trans hB h.size) o
end Go.Proofs.Ytllmkolchgmjoaa

/-
  Lists of numbers of the call's own. By the verifier.
-/
namespace Go.Proofs.Ytllmkolchgmjoaa
open Go.RowKit

theorem heapLt' {w : World} {k : Nat} {o : Obj} (h : w.heap[k]? = some o) : k < w.heap.size := (Array.getElem?_eq_some_iff.1 h).1
/-- A list of numbers of the call's own. -/
def IRow (base : Nat) (w : World) (v : Value) (T : List Int) : Prop := w.ownsRow base 2 1 v T.length (T.map (Value.int .i64))
theorem IRow.carry {base : Nat} {w w' : World} {v : Value} {T : List Int} (h : IRow base w v T) (g : ∀ k, base ≤ k → k < w.heap.size → w'.heap[k]? = w.heap[k]?) : IRow base w' v T := by
  refine ⟨h.1, h.2.imp id ?_⟩
  rintro ⟨g0, cap, cur, h1, h2, h3, h4⟩
  exact ⟨g0, cap, cur, h1, h2, by rw [g g0 h2 (heapLt' h3)]; exact h3, h4⟩
theorem IRow.shape {base : Nat} {w : World} {v : Value} {T : List Int} (h : IRow base w v T) : ∃ a cap, v = .slice a T.length cap := by
  rcases h.2 with ⟨rfl, hn⟩ | ⟨g, cap, cur, rfl, _⟩
  · rw [hn]; exact ⟨none, 0, rfl⟩
  · exact ⟨_, _, rfl⟩
theorem IRow.ints {base : Nat} {w : World} {a : Option Addr} {cap : Nat} {T : List Int} (h : IRow base w (.slice a T.length cap) T) : IntsAt w a T := by
  intro k hk
  rcases h.2 with ⟨_, hn⟩ | ⟨g, cap', cur, e, h2, h3, h4⟩
  · omega
  · obtain ⟨rfl, _, rfl⟩ : a = some ⟨g, 0, none⟩ ∧ True ∧ cap = cap' := by simpa using e
    have hc := World.ownsRow.cellAt (show w.ownsRow base 2 1 (.slice (some ⟨g, 0, none⟩) T.length cap) T.length _ from h) k (by omega)
    exact ⟨g, 0, rfl, heapLt' h3, by rw [Nat.zero_add, hc]; simp [List.getElem?_eq_getElem hk]⟩

theorem IRow.mono {base base' : Nat} {w : World} {v : Value} {xs : List Int} (h : IRow base w v xs) (hb : base' ≤ base) : IRow base' w v xs := ⟨h.1, h.2.imp id fun ⟨g, cap, cur, h1, h2, h3⟩ => ⟨g, cap, cur, h1, Nat.le_trans hb h2, h3⟩⟩
theorem info2' : (Try.prog.info? 2).map (fun i => (i.zero, i.size, i.bytes)) = some (some (.int .i64 0), 1, 8) := by kernel_rfl
theorem IRow.block {base : Nat} {w : World} {v : Value} {xs : List Int} (h : IRow base w v xs) : ∀ k, v.ownBlock = some k → base ≤ k := fun k hk => (World.ownsRow.lt h k hk).1
/-- One number more, behind a list of the call's own. -/
theorem row_iapp1 {ops : Array Oper} {rest : List Oper} {o : Oper} {a : Act} {Q : Exit → Act → World → Prop} {w : World} (hgd : o.guard = none) (s x : Operand)
    (ho : o.op = .call { callee := .builtin .append, args := #[s, x], argTypes := #[34, 34] })
    (base : Nat) (v : Value) (xs : List Int) (y : Int) (hs : a.eval s = v) (hrow : IRow base w v xs) (hx : a.eval x = .slice (some ⟨w.heap.size, 0, none⟩) 1 1)
    (hlen : xs.length ≤ 1000000) (hb : base ≤ w.heap.size)
    (h : ∀ v' w', IRow base w' v' (xs ++ [y]) → Below base w w' → wpList Try.prog ops Q rest (a.put o.dst v') w') :
    wpList Try.prog ops Q (o :: rest) a (w.alloc (.cells #[.int .i64 y] 2)) := by
  obtain ⟨i0, hi, hz0, hz1, hz2⟩ := info_parts info2'
  refine wpList_append_own _ hgd s x 34 ho base 2 i0 (.int .i64 0) 1 8 Try.underlying34 hi hz0 hz1 hz2 rfl (by decide) _ _ _ hs (World.ownsRow.alloc hrow _) ⟨w.heap.size, 0, none⟩ 1 1 [.int .i64 y] hx rfl ?_ ?_ ?_ ?_ ?_ ?_
  · intro j u hj
    match j, hj with
    | 0, hj => simp at hj; subst hj; simp [Addr.add]
  · intro u hu; simp at hu; subst hu; rfl
  · unfold maxLen; omega
  · omega
  · simp; omega
  · intro v' w' h1 h2 _
    refine h v' w' ?_ ?_
    · unfold IRow
      rw [List.length_append, List.map_append]
      exact h1
    · exact ((Below.refl base w).alloc hb _).grown h2 (by simp; omega) (fun k hk => IRow.block hrow k hk)
theorem IRow.below {base n : Nat} {w w' : World} {v : Value} {l : List Int} (h : IRow base w v l) (hn : ∀ k, v.ownBlock = some k → k < n) (g : Below n w w') : IRow base w' v l := by
  refine ⟨h.1, h.2.imp id ?_⟩
  rintro ⟨g0, cap, cur, h1, h2, h3, h4⟩
  exact ⟨g0, cap, cur, h1, h2, by rw [g.block g0 (hn g0 (by rw [h1]; rfl))]; exact h3, h4⟩
theorem IRow.lt {base : Nat} {w : World} {v : Value} {l : List Int} (h : IRow base w v l) : ∀ k, v.ownBlock = some k → base ≤ k ∧ k < w.heap.size := World.ownsRow.lt h
theorem IRow.alloc {base : Nat} {w : World} {v : Value} {l : List Int} (h : IRow base w v l) (o : Obj) : IRow base (w.alloc o) v l := World.ownsRow.alloc h o
theorem irow_built (w : World) (base : Nat) (hb : base ≤ w.heap.size) : IRow base (w.alloc (.cells #[] 2)) (.slice (some ⟨w.heap.size, 0, none⟩) 0 0) [] :=
  ⟨rfl, .inr ⟨w.heap.size, 0, #[], rfl, hb, by show (w.heap.push _)[w.heap.size]? = _; simp, Nat.le_refl _, by decide, rfl, rfl⟩⟩
theorem IRow.none {base : Nat} {w : World} {a : Option Addr} {n cap : Nat} {l : List Int} (h : IRow base w (.slice a n cap) l) : a = .none → cap = 0 := by
  rintro rfl
  rcases h.2 with ⟨e, _⟩ | ⟨g, cap', cur, e, _⟩
  · cases e; rfl
  · cases e
/-- A list of numbers behind one of the call's own. -/
theorem row_iapp {ops : Array Oper} {rest : List Oper} {o : Oper} {a : Act} {Q : Exit → Act → World → Prop} {w : World} (hgd : o.guard = none) (s x : Operand)
    (ho : o.op = .call { callee := .builtin .append, args := #[s, x], argTypes := #[34, 34] })
    (base : Nat) (v : Value) (L : List Int) (b off m c : Nat) (M : List Int) (hm : M.length = m) (hs : a.eval s = v) (hx : a.eval x = .slice (some ⟨b, off, none⟩) m c) (hr : IRow base w v L) (hM : ∀ k, k < m → w.cell? ⟨b, off + k, none⟩ = some (.int .i64 (M[k]?.getD 0)))
    (hl : L.length + M.length ≤ 2097152) (hb : base ≤ w.heap.size)
    (h : ∀ v' w', IRow base w' v' (L ++ M) → Below base w w' → w.grownBy w' v.ownBlock → (v' = .slice none 0 0 → v = .slice none 0 0) → wpList Try.prog ops Q rest (a.put o.dst v') w') :
    wpList Try.prog ops Q (o :: rest) a w := by
  obtain ⟨i0, hi, hz0, hz1, hz2⟩ := info_parts info2'
  subst hm
  refine wpList_append_own _ hgd s x 34 ho base 2 i0 (.int .i64 0) 1 8 Try.underlying34 hi hz0 hz1 hz2 rfl (by decide) _ _ _ hs hr ⟨b, off, none⟩ M.length c (M.map (Value.int .i64)) hx (by simp) ?_ ?_ ?_ ?_ ?_ ?_
  · intro j u hj
    have hjl : j < M.length := by have := (List.getElem?_eq_some_iff.1 hj).1; simpa using this
    have e : (⟨b, off, none⟩ : Addr).add j = ⟨b, off + j, none⟩ := by by_cases h0 : j = 0 <;> simp [Addr.add, h0]
    rw [e, hM j hjl]
    rw [List.getElem?_map, List.getElem?_eq_getElem hjl] at hj
    rw [List.getElem?_eq_getElem hjl]
    simpa using hj
  · intro u hu
    simp at hu
    obtain ⟨y, _, rfl⟩ := hu
    rfl
  · unfold maxLen; omega
  · omega
  · omega
  · intro v' w' h1 h2 h3
    refine h v' w' ?_ ?_ h2 fun e => (h3.1 e).1
    · unfold IRow
      rw [List.length_append, List.map_append]
      exact h1
    · exact (Below.refl base w).grown h2 hb (fun k hk => IRow.block hr k hk)
end Go.Proofs.Ytllmkolchgmjoaa

/-
  Lists of numbers that lie wherever. By the verifier.
-/
namespace Go.Proofs.Ytllmkolchgmjoaa
open Go.RowKit

/-- A list of numbers in blocks from b up to t. -/
def IntIn (b t : Nat) (w : World) (v : Value) (l : List Int) : Prop := SlIn b t w v l.length (l.map (Value.int .i64))
theorem IntsAt.of_in {b t : Nat} {w : World} {a : Option Addr} {cap : Nat} {l : List Int} (h : IntIn b t w (.slice a l.length cap) l) : IntsAt w a l := by
  intro k hk
  obtain ⟨g, off, rfl, h1, h2, h3⟩ := SlIn.some h (by intro e; rw [List.map_eq_nil_iff] at e; subst e; simp at hk)
  refine ⟨g, off, rfl, by omega, ?_⟩
  have := (SlIn.cells h k (by simpa using hk)).1
  rw [this, List.getElem?_map, List.getElem?_eq_getElem hk]
  rfl
theorem IntIn.of_row {b t : Nat} {w : World} {v : Value} {l : List Int} (h : IRow b w v l) (ht : ∀ k, v.ownBlock = some k → k < t) (hs : t ≤ w.heap.size) : IntIn b t w v l := SlIn.of_row h ht hs
end Go.Proofs.Ytllmkolchgmjoaa
