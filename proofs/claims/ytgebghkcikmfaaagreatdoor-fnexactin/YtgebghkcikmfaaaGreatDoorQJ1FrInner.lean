import Derived.Test.YtgebghkcikmfaaaGreatDoorRows
import Derived.WalkKit
import Derived.WalkSpells
import Derived.WalkLawsBesides
import Derived.RowKit3
import Derived.Test.YtgebghkcikmfaaaGreatDoorQJ0NumUp
import Derived.Laws.AppendOwn
import Derived.Laws.OwnMore
import Derived.Laws.AppendOwnNone
import Derived.Lib.SliceRun
import Derived.Deep.RegionLaw
import Derived.Handy
import Derived.Laws.Rows
import Derived.Laws.Tables
import Derived.Laws.ResultCell
import Derived.Lib.Strings
import Derived.Deep.DeepCutAuto
import Derived.Lib.AppendStr
/-
  Lists of numbers of the call's own. By the verifier.
-/
namespace Go.Proofs.YtgebghkcikmfaaaGreatDoor
open Go.RowKit

theorem heapLt' {w : World} {k : Nat} {o : Obj} (h : w.heap[k]? = some o) : k < w.heap.size := (Array.getElem?_eq_some_iff.1 h).1
/-- A list of numbers of the call's own. -/
def IRow (base : Nat) (w : World) (v : Value) (T : List Int) : Prop := w.ownsRow base 2 1 v T.length (T.map (Value.int .i64))
theorem IRow.carry {base : Nat} {w w' : World} {v : Value} {T : List Int} (h : IRow base w v T) (g : ∀ k, base ≤ k → k < w.heap.size → w'.heap[k]? = w.heap[k]?) : IRow base w' v T := by
  refine ⟨h.1, h.2.imp id ?_⟩
  rintro ⟨g0, cap, cur, h1, h2, h3, h4⟩
  exact ⟨g0, cap, cur, h1, h2, by rw [g g0 h2 (heapLt' h3)]; exact h3, h4⟩
theorem IRow.shape {base : Nat} {w : World} {v : Value} {T : List Int} (h : IRow base w v T) : ∃ a cap, v = .slice a T.length cap := by
  rcases h.2 with ⟨rfl, hn⟩ | ⟨g, cap, cur, rfl, _⟩
  · rw [hn]; exact ⟨none, 0, rfl⟩
  · exact ⟨_, _, rfl⟩
theorem IRow.ints {base : Nat} {w : World} {a : Option Addr} {cap : Nat} {T : List Int} (h : IRow base w (.slice a T.length cap) T) : IntsAt w a T := by
  intro k hk
  rcases h.2 with ⟨_, hn⟩ | ⟨g, cap', cur, e, h2, h3, h4⟩
  · omega
  · obtain ⟨rfl, _, rfl⟩ : a = some ⟨g, 0, none⟩ ∧ True ∧ cap = cap' := by simpa using e
    have hc := World.ownsRow.cellAt (show w.ownsRow base 2 1 (.slice (some ⟨g, 0, none⟩) T.length cap) T.length _ from h) k (by omega)
    exact ⟨g, 0, rfl, heapLt' h3, by rw [Nat.zero_add, hc]; simp [List.getElem?_eq_getElem hk]⟩

theorem IRow.mono {base base' : Nat} {w : World} {v : Value} {xs : List Int} (h : IRow base w v xs) (hb : base' ≤ base) : IRow base' w v xs := ⟨h.1, h.2.imp id fun ⟨g, cap, cur, h1, h2, h3⟩ => ⟨g, cap, cur, h1, Nat.le_trans hb h2, h3⟩⟩
theorem info2' : (Tryz.prog.info? 2).map (fun i => (i.zero, i.size, i.bytes)) = some (some (.int .i64 0), 1, 8) := by kernel_rfl
theorem IRow.block {base : Nat} {w : World} {v : Value} {xs : List Int} (h : IRow base w v xs) : ∀ k, v.ownBlock = some k → base ≤ k := fun k hk => (World.ownsRow.lt h k hk).1
/-- One number more, behind a list of the call's own. -/
theorem row_iapp1 {ops : Array Oper} {rest : List Oper} {o : Oper} {a : Act} {Q : Exit → Act → World → Prop} {w : World} (hgd : o.guard = none) (s x : Operand)
    (ho : o.op = .call { callee := .builtin .append, args := #[s, x], argTypes := #[27, 27] })
    (base : Nat) (v : Value) (xs : List Int) (y : Int) (hs : a.eval s = v) (hrow : IRow base w v xs) (hx : a.eval x = .slice (some ⟨w.heap.size, 0, none⟩) 1 1)
    (hlen : xs.length ≤ 1000000) (hb : base ≤ w.heap.size)
    (h : ∀ v' w', IRow base w' v' (xs ++ [y]) → Below base w w' → wpList Tryz.prog ops Q rest (a.put o.dst v') w') :
    wpList Tryz.prog ops Q (o :: rest) a (w.alloc (.cells #[.int .i64 y] 2)) := by
  obtain ⟨i0, hi, hz0, hz1, hz2⟩ := info_parts info2'
  refine wpList_append_own _ hgd s x 27 ho base 2 i0 (.int .i64 0) 1 8 Tryz.underlying27 hi hz0 hz1 hz2 rfl (by decide) _ _ _ hs (World.ownsRow.alloc hrow _) ⟨w.heap.size, 0, none⟩ 1 1 [.int .i64 y] hx rfl ?_ ?_ ?_ ?_ ?_ ?_
  · intro j u hj
    match j, hj with
    | 0, hj => simp at hj; subst hj; simp [Addr.add]
  · intro u hu; simp at hu; subst hu; rfl
  · unfold maxLen; omega
  · omega
  · simp; omega
  · intro v' w' h1 h2 _
    refine h v' w' ?_ ?_
    · unfold IRow
      rw [List.length_append, List.map_append]
      exact h1
    · exact ((Below.refl base w).alloc hb _).grown h2 (by simp; omega) (fun k hk => IRow.block hrow k hk)
theorem IRow.below {base n : Nat} {w w' : World} {v : Value} {l : List Int} (h : IRow base w v l) (hn : ∀ k, v.ownBlock = some k → k < n) (g : Below n w w') : IRow base w' v l := by
  refine ⟨h.1, h.2.imp id ?_⟩
  rintro ⟨g0, cap, cur, h1, h2, h3, h4⟩
  exact ⟨g0, cap, cur, h1, h2, by rw [g.block g0 (hn g0 (by rw [h1]; rfl))]; exact h3, h4⟩
theorem IRow.lt {base : Nat} {w : World} {v : Value} {l : List Int} (h : IRow base w v l) : ∀ k, v.ownBlock = some k → base ≤ k ∧ k < w.heap.size := World.ownsRow.lt h
theorem IRow.alloc {base : Nat} {w : World} {v : Value} {l : List Int} (h : IRow base w v l) (o : Obj) : IRow base (w.alloc o) v l := World.ownsRow.alloc h o
theorem irow_built (w : World) (base : Nat) (hb : base ≤ w.heap.size) : IRow base (w.alloc (.cells #[] 2)) (.slice (some ⟨w.heap.size, 0, none⟩) 0 0) [] :=
  ⟨rfl, .inr ⟨w.heap.size, 0, #[], rfl, hb, by show (w.heap.push _)[w.heap.size]? = _; simp, Nat.le_refl _, by decide, rfl, rfl⟩⟩
theorem IRow.none {base : Nat} {w : World} {a : Option Addr} {n cap : Nat} {l : List Int} (h : IRow base w (.slice a n cap) l) : a = .none → cap = 0 := by
  rintro rfl
  rcases h.2 with ⟨e, _⟩ | ⟨g, cap', cur, e, _⟩
  · cases e; rfl
  · cases e
end Go.Proofs.YtgebghkcikmfaaaGreatDoor

/-
  Numbers put behind numbers of the call's own, as a step of a region that draws. By the verifier.
-/
namespace Go.Proofs.YtgebghkcikmfaaaGreatDoor
open Go.RowKit

theorem intsEmpty {w : World} {l : List Int} (h : IntsAt w none l) : l = [] := by
  cases l with
  | nil => rfl
  | cons z zs => obtain ⟨b, off, e, _⟩ := h 0 (by simp); cases e
theorem int_app_run (w : World) (ty : TypeId) (base : Nat) (v : Value) (L : List Int) (a0 : Option Addr) (c : Nat) (M : List Int) (h : IRow base w v L) (hM : IntsAt w a0 M) (hn : a0 = none → c = 0) (hl : L.length + M.length ≤ 2097152) (hb : base ≤ w.heap.size) :
    ∃ v' w', (Builtin.append_ #[27, 27] ty #[v, .slice a0 M.length c]).run Tryz.prog w = .ok v' w' ∧ IRow base w' v' (L ++ M) ∧ Below base w w' ∧ w.grownBy w' v.ownBlock ∧ (v' = .slice none 0 0 → v = .slice none 0 0) ∧ (v'.ownBlock = v.ownBlock ∨ v'.ownBlock = some w.heap.size) := by
  obtain ⟨i0, hi0, hz0, hz1, hz2⟩ := info_parts info2'
  cases a0 with
  | none =>
    obtain rfl := intsEmpty hM
    obtain rfl := hn rfl
    exact ⟨v, w, run_append_owned_none (P := Tryz.prog) (w := w) base 27 ty 2 i0 1 Tryz.underlying27 hi0 v _ _ h, by simpa using h, Below.refl _ _, ⟨rfl, rfl, rfl, Nat.le_refl _, fun _ _ _ => rfl⟩, id, .inl rfl⟩
  | some ad =>
    obtain ⟨v', w', h1, h2, h3, h4, h5⟩ := run_append_where (P := Tryz.prog) w base 27 ty 2 i0 (.int .i64 0) 1 8 Tryz.underlying27 hi0 hz0 hz1 hz2 rfl (by decide) v _ _ h ad M.length c (M.map (Value.int .i64)) (by simp)
      (by
        intro j u hj
        have hj' : j < M.length := by have := (List.getElem?_eq_some_iff.1 hj).1; simpa using this
        obtain ⟨b, off, e, _, c0⟩ := hM j hj'
        cases e
        rw [show (⟨b, off, none⟩ : Addr).add j = ⟨b, off + j, none⟩ by by_cases h0 : j = 0 <;> simp [Addr.add, h0], c0]
        rw [List.getElem?_map, List.getElem?_eq_getElem hj'] at hj
        rw [List.getElem?_eq_getElem hj']
        simpa using hj)
      (by intro u hu; simp at hu; obtain ⟨y, _, rfl⟩ := hu; rfl) (by unfold maxLen; omega) (by omega) hb
    refine ⟨v', w', h1, ?_, (Below.refl base w).grown h3 hb (fun k hk => (h.lt k hk).1), h3, fun e => (h4.1 e).1, h5⟩
    unfold IRow
    rw [List.length_append, List.map_append]
    exact h2
theorem int_op_app {o : Oper} {a : Act} {K : Act → World → Prop} {Q : Exit → Act → World → Prop} {w : World} (s x : Operand)
    (ho : o.op = .call { callee := .builtin .append, args := #[s, x], argTypes := #[27, 27] })
    (base : Nat) (v : Value) (L : List Int) (a0 : Option Addr) (m c : Nat) (M : List Int) (hm : M.length = m) (hs : a.eval s = v) (hx : a.eval x = .slice a0 m c) (hr : IRow base w v L) (hM : IntsAt w a0 M) (hn : a0 = none → c = 0)
    (hl : L.length + M.length ≤ 2097152) (hb : base ≤ w.heap.size)
    (h : ∀ v' w', IRow base w' v' (L ++ M) → Below base w w' → w.grownBy w' v.ownBlock → (v'.ownBlock = v.ownBlock ∨ v'.ownBlock = some w.heap.size) → K (a.put o.dst v') w') : o.wp Tryz.prog a w K Q := by
  subst hm
  obtain ⟨v', w', hrun, h1, h2, h3, h4, h5⟩ := int_app_run w o.type base v L a0 c M hr hM hn hl hb
  unfold Oper.wp
  simp [execOp, ho, resolve, invoke, builtin, hs, hx, hrun, Result.andThen]
  exact h v' w' h1 h2 h3 h5
end Go.Proofs.YtgebghkcikmfaaaGreatDoor

/-
  Addresses within bounds, the model's way. By the verifier.
-/
namespace Go.Proofs.YtgebghkcikmfaaaGreatDoor
open Go.RowKit

theorem specAddr (n : Int) (w : World) :
    Calls Tryz.prog 259 #[.int .i64 n] w fun e w' => e = .returned (.bool (inB 0 4294967295 n)) ∧ w' = w := by
  go_enter Tryz.func259, Tryz.ntmps259
  go_wp2_with (go_at_call 72; refine (specIn _ _ _ _).mono ?_; rintro e w' ⟨rfl, rfl⟩)
  go_ret
  exact ⟨rfl, rfl⟩
end Go.Proofs.YtgebghkcikmfaaaGreatDoor

/-
  The walks of withNumber and l2Bytes: a number's bytes, the highest first, behind a list of the call's own. By the verifier.
-/
namespace Go.Proofs.YtgebghkcikmfaaaGreatDoor
open Go.RowKit

/-- A list of bytes of the call's own. -/
def Row (base : Nat) (w : World) (v : Value) (xs : List Int) : Prop := w.ownsRow base 5 1 v xs.length (xs.map (Value.int .u8))
theorem Row.nil (base : Nat) (w : World) : Row base w (.slice none 0 0) [] := World.ownsRow_nil _ _ _ _
theorem Row.alloc {base : Nat} {w : World} {v : Value} {xs : List Int} (h : Row base w v xs) (o : Obj) : Row base (w.alloc o) v xs := World.ownsRow.alloc h o
theorem Row.block {base : Nat} {w : World} {v : Value} {xs : List Int} (h : Row base w v xs) : ∀ k, v.ownBlock = some k → base ≤ k := fun k hk => (World.ownsRow.lt h k hk).1
theorem info5 : (Tryz.prog.info? 5).map (fun i => (i.zero, i.size, i.bytes)) = some (some (.int .u8 0), 1, 1) := by kernel_rfl
theorem row_more {base : Nat} {w : World} {v : Value} {xs ys : List Int} {m : Nat} (hm : ys.length = m) (h : w.ownsRow base 5 1 v (xs.length + m) (xs.map (Value.int .u8) ++ ys.map (Value.int .u8))) : Row base w v (xs ++ ys) := by
  subst hm
  unfold Row
  rw [List.length_append, List.map_append]
  exact h

theorem shr_byte (n : Int) (k : Nat) : n / 2 ^ (8 * k) % 256 = n / 256 ^ k % 256 := by
  rw [Int.pow_mul]; rfl

/-- One byte more, behind a list of the call's own. -/
theorem row_app1 {ops : Array Oper} {rest : List Oper} {o : Oper} {a : Act} {Q : Exit → Act → World → Prop} {w : World} (hgd : o.guard = none) (s x : Operand)
    (ho : o.op = .call { callee := .builtin .append, args := #[s, x], argTypes := #[224, 224] })
    (base : Nat) (v : Value) (xs : List Int) (y : Int) (hs : a.eval s = v) (hrow : Row base w v xs) (hx : a.eval x = .slice (some ⟨w.heap.size, 0, none⟩) 1 1)
    (hlen : xs.length ≤ 1000000) (hb : base ≤ w.heap.size)
    (h : ∀ v' w', Row base w' v' (xs ++ [y]) → Below base w w' → wpList Tryz.prog ops Q rest (a.put o.dst v') w') :
    wpList Tryz.prog ops Q (o :: rest) a (w.alloc (.cells #[.int .u8 y] 5)) := by
  obtain ⟨i0, hi, hz0, hz1, hz2⟩ := info_parts info5
  refine wpList_append_own _ hgd s x 224 ho base 5 i0 (.int .u8 0) 1 1 Tryz.underlying224 hi hz0 hz1 hz2 rfl (by decide) _ _ _ hs (Row.alloc hrow _) ⟨w.heap.size, 0, none⟩ 1 1 [.int .u8 y] hx rfl ?_ ?_ ?_ ?_ ?_ ?_
  · intro j u hj
    match j, hj with
    | 0, hj => simp at hj; subst hj; simp [Addr.add]
  · intro u hu; simp at hu; subst hu; rfl
  · unfold maxLen; omega
  · omega
  · simp; omega
  · intro v' w' h1 h2 _
    refine h v' w' (row_more (m := 1) (ys := [y]) rfl (by simpa using h1)) ?_
    exact ((Below.refl base w).alloc hb _).grown h2 (by simp; omega) (fun k hk => Row.block hrow k hk)

theorem be_succ_split {P : List Int} {k size : Nat} {n : Int} (h : P ++ be (k + 1) n = be size n) : (P ++ [n / 2 ^ (8 * k) % 256]) ++ be k n = be size n := by
  rw [← h, shr_byte]; simp [be]

set_option maxHeartbeats 1600000 in
theorem specBytes (base : Nat) (v : Value) (xs : List Int) (size : Nat) (n : Int) (w : World) (hs : size ≤ 8) (hx : xs.length ≤ 4000) (n0 : 0 ≤ n) (hb : base ≤ w.heap.size) (own : Hid (Row base w v xs)) :
    Calls Tryz.prog 233 #[v, .int .i64 n, .int .i64 size] w fun e w' => ∃ v', e = .returned v' ∧ Row base w' v' (xs ++ be size n) ∧ Below base w w' := by
  go_enter Tryz.func233, Tryz.ntmps233
  go_wp2
  go_loopw [0, 7] (fun v i wr => ∃ (k : Nat) (P : List Int), k ≤ size ∧ i = .int .i64 ((k : Int) - 1) ∧ P.length + k = size ∧ Hid (P ++ be k n = be size n) ∧ Hid (Row base wr v (xs ++ P)) ∧ Hid (Below base w wr)) (fun _ i _ => (intOf i + 1).toNat)
  case atStart => exact ⟨size, [], Nat.le_refl _, rfl, by simp, rfl, by simpa only [List.append_nil] using own, Below.refl _ _⟩
  case round =>
    obtain ⟨k, P, hk, rfl, hP, hbe, hrow, hbel⟩ := hrel
    cases k with
    | zero =>
      go_wp2
      go_ret
      refine ⟨_, rfl, ?_, hbel.out⟩
      have := hbe.out
      simp only [be, List.append_nil] at this
      rw [← this]; exact hrow.out
    | succ k =>
      have hsz := hbel.out.size
      have y0 : (n / 2 ^ (8 * k)).tmod 256 = n / 2 ^ (8 * k) % 256 := Int.tmod_eq_emod_of_nonneg (Int.ediv_nonneg n0 (Int.le_of_lt (Int.pow_pos (by decide))))
      go_wp2_with (at_builtin; refine row_app1 rfl (.tmp 14) (.tmp 22) rfl base _ (xs ++ P) (n / 2 ^ (8 * k) % 256) rfl hrow.out rfl ?_ ?_ ?_)
      · rw [List.length_append]; omega
      · omega
      · intro v' w' h1 h2
        have H1 : Hid (Row base w' v' (xs ++ (P ++ [n / 2 ^ (8 * k) % 256]))) := h1
        have H2 : Hid (Below base w w') := hbel.out.trans h2
        clear h1 h2
        go_wp2
        go_roundw
        case rel => exact ⟨k, P ++ [n / 2 ^ (8 * k) % 256], by omega, by go_num, by simp; omega, be_succ_split hbe.out, H1, H2⟩
        case measure => simp [intOf]
end Go.Proofs.YtgebghkcikmfaaaGreatDoor

/-
  The walks of FrameOk, the program's and the model's: both answer whether the frame is right, and change nothing. By the verifier.
-/
namespace Go.Proofs.YtgebghkcikmfaaaGreatDoor
open Go.RowKit

theorem okA (f : Fr) : f.ok = ([f.to, f.frm, f.sport, f.dport, f.sum].all (inB 0 65535) && [f.src, f.dst].all (inB 0 4294967295) && [f.proto].all (inB 0 255) && [f.mark].all (inB 0 3) && decide (f.tags.length ≤ 2) && f.tags.all (inB 0 4095) && decide (f.body.size ≤ 1500)) := by
  rw [Bool.eq_iff_iff]
  simp only [Fr.ok_true, Fr.Ok, Bool.and_eq_true, List.all_cons, List.all_nil, decide_eq_true_eq, inB_true, and_true]
  constructor
  · rintro ⟨h1, h2, h3, h4, h5, h6, h7, h8, h9, h10, h11, h12⟩
    exact ⟨⟨⟨⟨⟨⟨⟨h1, h2, h7, h8, h10⟩, h4, h5⟩, h6⟩, h9⟩, h3⟩, h12⟩, h11⟩
  · rintro ⟨⟨⟨⟨⟨⟨⟨h1, h2, h7, h8, h10⟩, h4, h5⟩, h6⟩, h9⟩, h3⟩, h12⟩, h11⟩
    exact ⟨h1, h2, h3, h4, h5, h6, h7, h8, h9, h10, h11, h12⟩
end Go.Proofs.YtgebghkcikmfaaaGreatDoor

/-
  Small joins for frames and their bytes. By the verifier.
-/
namespace Go.Proofs.YtgebghkcikmfaaaGreatDoor
open Go.RowKit

theorem below_of_alloc {w w' : World} {o : Obj} (g : Below (w.heap.size + 1) (w.alloc o) w') : Below w.heap.size w w' :=
  (bel_alloc (Below.refl _ w) (Nat.le_refl _) o).trans (g.mono (Nat.le_succ _))
theorem Row.mono {base base' : Nat} {w : World} {v : Value} {xs : List Int} (h : Row base w v xs) (hb : base' ≤ base) : Row base' w v xs := ⟨h.1, h.2.imp id fun ⟨g, cap, cur, h1, h2, h3⟩ => ⟨g, cap, cur, h1, Nat.le_trans hb h2, h3⟩⟩
theorem tagBytes_take (tags : List Int) (k : Nat) (hk : k < tags.length) : tagBytes (tags.take (k + 1)) = tagBytes (tags.take k) ++ [1] ++ be 2 (tags[k]?.getD 0) := by
  rw [List.take_succ_eq_append_getElem hk, tagBytes_append]; simp [tagBytes, List.getElem?_eq_getElem hk]
theorem ints_below {w w' : World} {a : Option Addr} {zs : List Int} {B : Nat} (h : IntsAt w a zs) (hB : w.heap.size ≤ B) (g : Below B w w') : IntsAt w' a zs := h.below (g.mono hB)
end Go.Proofs.YtgebghkcikmfaaaGreatDoor

/-
  Lists of numbers of the call's own; the empty frame. By the verifier.
-/
namespace Go.Proofs.YtgebghkcikmfaaaGreatDoor
open Go.RowKit

theorem heap_lt {w : World} {k : Nat} {o : Obj} (h : w.heap[k]? = some o) : k < w.heap.size := (Array.getElem?_eq_some_iff.1 h).1
/-- The cells of an empty frame. -/
def zeroFr : Array Value := #[.int .i64 0, .int .i64 0, .slice none 0 0, .int .i64 0, .int .i64 0, .int .i64 0, .int .i64 0, .int .i64 0, .int .i64 0, .int .i64 0, .string ⟨#[]⟩]
/-- The empty frame. -/
def noFr : Fr := ⟨0, 0, [], 0, 0, 0, 0, 0, 0, 0, ⟨#[]⟩⟩
theorem irow_other {base B : Nat} {w : World} {v : Value} {xs : List Int} {cs : Array Value} (h : IRow base w v xs) (x : Boxed w B cs 175) (cs' : Array Value) : IRow base (w.setRow B cs') v xs := by
  refine ⟨h.1, h.2.imp id ?_⟩
  rintro ⟨g0, cap, cur, h1, h2, h3, h4⟩
  have hne : g0 ≠ B := by
    rintro rfl
    unfold Boxed at x
    rw [x] at h3
    injection h3 with h3
    injection h3 with _ h3 _
    exact absurd h3 (by decide)
  exact ⟨g0, cap, cur, h1, h2, by rw [setRow_other _ _ _ _ hne]; exact h3, h4⟩
/-- One number more, as a step of a region that draws. -/
theorem step_iapp1 {ops : Array Oper} {o : Oper} {a : Act} {w wx : World} {K : Act → World → Prop} {Q : Exit → Act → World → Prop} {E : Prop} (hgd : o.guard = none) (s x : Operand)
    (ho : o.op = .call { callee := .builtin .append, args := #[s, x], argTypes := #[27, 27] })
    (base : Nat) (v : Value) (xs : List Int) (y : Int) (hwx : wx = w.alloc (.cells #[.int .i64 y] 2)) (hs : a.eval s = v) (hrow : IRow base w v xs) (hx : a.eval x = .slice (some ⟨w.heap.size, 0, none⟩) 1 1)
    (hlen : xs.length ≤ 1000000) (hb : base ≤ w.heap.size)
    (h : ∀ v' w', IRow base w' v' (xs ++ [y]) → Below base w w' → K (a.put o.dst v') w') :
    if Region.wanted o (yielded ops a.tmps) = true then Oper.wp Tryz.prog o a wx K Q else E := by
  subst hwx
  have hw : Region.wanted o (yielded ops a.tmps) = true := by simp [Region.wanted, hgd]
  rw [if_pos hw]
  obtain ⟨i0, hi, hz0, hz1, hz2⟩ := info_parts info2'
  obtain ⟨v', w', hrun, h1, h2, _⟩ := run_append_own (P := Tryz.prog) (w.alloc (.cells #[.int .i64 y] 2)) base 27 o.type 2 i0 (.int .i64 0) 1 8 Tryz.underlying27 hi hz0 hz1 hz2 rfl (by decide) v _ _ (World.ownsRow.alloc hrow _) ⟨w.heap.size, 0, none⟩ 1 1 [.int .i64 y] rfl
    (by intro j u hj
        match j, hj with
        | 0, hj => simp at hj; subst hj; simp [Addr.add]) (by intro u hu; simp at hu; subst hu; rfl) (by unfold maxLen; omega) (by omega) (by simp; omega)
  unfold Oper.wp
  simp [execOp, ho, resolve, invoke, builtin, hs, hx, hrun, Result.andThen]
  refine h v' w' ?_ ?_
  · unfold IRow
    rw [List.length_append, List.map_append]
    exact h1
  · exact ((Below.refl base w).alloc hb _).grown h2 (by simp; omega) (fun k hk => IRow.block hrow k hk)
end Go.Proofs.YtgebghkcikmfaaaGreatDoor

/-
  What the model's ReadFrame says of a text, as plain data. By the verifier.
-/
namespace Go.Proofs.YtgebghkcikmfaaaGreatDoor
open Go.RowKit

/-- Bytes as a number, the highest first. -/
def numOf (l : List UInt8) : Int := l.foldl (fun n b => n * 256 + (b.toNat : Int)) 0
theorem numOf_append (l : List UInt8) (b : UInt8) : numOf (l ++ [b]) = numOf l * 256 + (b.toNat : Int) := by simp [numOf]
theorem numOf_nonneg (l : List UInt8) : 0 ≤ numOf l := by
  have : ∀ (l : List UInt8) (n : Int), 0 ≤ n → 0 ≤ l.foldl (fun n b => n * 256 + (b.toNat : Int)) n := by
    intro l
    induction l with
    | nil => intro n h; exact h
    | cons b l ih => intro n h; exact ih _ (by show 0 ≤ n * 256 + (b.toNat : Int); omega)
  exact this l 0 (by decide)
theorem numOf_lt (l : List UInt8) : numOf l < 256 ^ l.length := by
  have : ∀ (l : List UInt8) (n : Int), l.foldl (fun n b => n * 256 + (b.toNat : Int)) n < (n + 1) * 256 ^ l.length := by
    intro l
    induction l with
    | nil => intro n; simp; omega
    | cons b l ih =>
      intro n
      refine Int.lt_of_lt_of_le (ih _) ?_
      have hb := b.toNat_lt
      rw [List.length_cons, Int.pow_succ, Int.mul_comm (256 ^ l.length) 256, ← Int.mul_assoc]
      exact Int.mul_le_mul_of_nonneg_right (by show n * 256 + (b.toNat : Int) + 1 ≤ (n + 1) * 256; omega) (Int.le_of_lt (Int.pow_pos (by decide)))
  simpa [numOf] using this l 0

/-- k bytes from p on, as a number. -/
def numAt (text : ByteArray) (p k : Nat) : Int := numOf ((text.data.toList.drop p).take k)
def sTail (text : ByteArray) (dest frm : Int) (T : List Int) (p : Nat) : Fr × Int :=
  if text.size < p + 14 then (noFr, 1)
  else if 3 < numAt text (p + 13) 1 then (noFr, 4)
  else if text.size < p + 18 then (noFr, 1)
  else if 1500 < numAt text (p + 16) 2 then (noFr, 5)
  else if (text.size : Int) < p + 18 + numAt text (p + 16) 2 then (noFr, 1)
  else if p + 18 + numAt text (p + 16) 2 < (text.size : Int) then (noFr, 6)
  else (⟨dest, frm, T, numAt text p 4, numAt text (p + 4) 4, numAt text (p + 8) 1, numAt text (p + 9) 2, numAt text (p + 11) 2, numAt text (p + 13) 1, numAt text (p + 14) 2, text.extract (p + 18) text.size⟩, 0)
def sKind (text : ByteArray) (dest frm : Int) : Nat → Nat → List Int → Fr × Int
  | 0, p, T => if text.size ≤ p then (noFr, 1) else if numAt text p 1 = 2 then sTail text dest frm T (p + 1) else if numAt text p 1 ≠ 1 then (noFr, 3) else (noFr, 2)
  | k + 1, p, T => if text.size ≤ p then (noFr, 1) else if numAt text p 1 = 2 then sTail text dest frm T (p + 1) else if numAt text p 1 ≠ 1 then (noFr, 3)
    else if text.size < p + 3 then (noFr, 1) else if 4095 < numAt text (p + 1) 2 then (noFr, 2) else sKind text dest frm k (p + 3) (T ++ [numAt text (p + 1) 2])
def sRun (text : ByteArray) : Fr × Int := if text.size < 4 then (noFr, 1) else sKind text (numAt text 0 2) (numAt text 2 2) 2 4 []
/-- The cells of the frame while its tags are read. -/
def csOf (dest frm : Int) (sl : Value) : Array Value := #[.int .i64 dest, .int .i64 frm, sl, .int .i64 0, .int .i64 0, .int .i64 0, .int .i64 0, .int .i64 0, .int .i64 0, .int .i64 0, .string ⟨#[]⟩]
theorem frOne (a0 a1 a3 a4 a5 a6 a7 a8 a9 : Int) (x : Option Addr) (n c : Nat) (s : ByteArray) : (#[.int .i64 a0, .int .i64 a1, .slice x n c, .int .i64 a3, .int .i64 a4, .int .i64 a5, .int .i64 a6, .int .i64 a7, .int .i64 a8, .int .i64 a9, .string s] : Array Value).all (·.oneCell') = true := by simp [Value.oneCell']
end Go.Proofs.YtgebghkcikmfaaaGreatDoor

/-
  A frame that is shown is read again: plain facts. By the verifier.
-/
namespace Go.Proofs.YtgebghkcikmfaaaGreatDoor
open Go.RowKit

/-- A number as a byte. -/
def u8 (n : Int) : UInt8 := UInt8.ofNat n.toNat
end Go.Proofs.YtgebghkcikmfaaaGreatDoor

/-
  What is read without an error is a right frame, and shown it is the text again: plain facts. By the verifier.
-/
namespace Go.Proofs.YtgebghkcikmfaaaGreatDoor
open Go.RowKit

theorem u8_of (b : UInt8) (n : Int) (h : n = (b.toNat : Int)) : u8 n = b := by
  subst h
  simp [u8]
theorem be_numOf1 (l : List UInt8) (h : l.length = 1) : (be 1 (numOf l)).map u8 = l := by
  match l, h with
  | [a], _ =>
    have ha := a.toNat_lt
    simp only [be, List.map_cons, List.map_nil, numOf, List.foldl_cons, List.foldl_nil]
    rw [u8_of a _ (by omega)]
theorem be_numOf2 (l : List UInt8) (h : l.length = 2) : (be 2 (numOf l)).map u8 = l := by
  match l, h with
  | [a, b], _ =>
    have ha := a.toNat_lt
    have hb := b.toNat_lt
    simp only [be, List.map_cons, List.map_nil, numOf, List.foldl_cons, List.foldl_nil]
    rw [u8_of a _ (by omega), u8_of b _ (by omega)]
theorem be_numOf4 (l : List UInt8) (h : l.length = 4) : (be 4 (numOf l)).map u8 = l := by
  match l, h with
  | [a, b, c, d], _ =>
    have ha := a.toNat_lt
    have hb := b.toNat_lt
    have hc := c.toNat_lt
    have hd := d.toNat_lt
    simp only [be, List.map_cons, List.map_nil, numOf, List.foldl_cons, List.foldl_nil]
    rw [u8_of a _ (by omega), u8_of b _ (by omega), u8_of c _ (by omega), u8_of d _ (by omega)]
theorem dropL_split (l : List UInt8) (p k : Nat) : l.drop p = (l.drop p).take k ++ l.drop (p + k) := by
  rw [← List.drop_drop]
  exact (List.take_append_drop k _).symm
theorem takeL_len (l : List UInt8) (p k : Nat) (h : p + k ≤ l.length) : ((l.drop p).take k).length = k := by
  rw [List.length_take, List.length_drop]
  omega
theorem numAt_lt1 (text : ByteArray) (p : Nat) (h : p + 1 ≤ text.data.toList.length) : 0 ≤ numAt text p 1 ∧ numAt text p 1 ≤ 255 := by
  have a := numOf_nonneg ((text.data.toList.drop p).take 1)
  have b := numOf_lt ((text.data.toList.drop p).take 1)
  rw [takeL_len _ _ _ h] at b
  unfold numAt
  omega
theorem numAt_lt2 (text : ByteArray) (p : Nat) (h : p + 2 ≤ text.data.toList.length) : 0 ≤ numAt text p 2 ∧ numAt text p 2 ≤ 65535 := by
  have a := numOf_nonneg ((text.data.toList.drop p).take 2)
  have b := numOf_lt ((text.data.toList.drop p).take 2)
  rw [takeL_len _ _ _ h] at b
  unfold numAt
  omega
theorem numAt_lt4 (text : ByteArray) (p : Nat) (h : p + 4 ≤ text.data.toList.length) : 0 ≤ numAt text p 4 ∧ numAt text p 4 ≤ 4294967295 := by
  have a := numOf_nonneg ((text.data.toList.drop p).take 4)
  have b := numOf_lt ((text.data.toList.drop p).take 4)
  rw [takeL_len _ _ _ h] at b
  unfold numAt
  omega
theorem piece1 (text : ByteArray) (p : Nat) (h : p + 1 ≤ text.data.toList.length) : text.data.toList.drop p = (be 1 (numAt text p 1)).map u8 ++ text.data.toList.drop (p + 1) := by
  unfold numAt
  rw [be_numOf1 _ (takeL_len _ _ _ h)]
  exact dropL_split _ _ _
theorem piece2 (text : ByteArray) (p : Nat) (h : p + 2 ≤ text.data.toList.length) : text.data.toList.drop p = (be 2 (numAt text p 2)).map u8 ++ text.data.toList.drop (p + 2) := by
  unfold numAt
  rw [be_numOf2 _ (takeL_len _ _ _ h)]
  exact dropL_split _ _ _
theorem piece4 (text : ByteArray) (p : Nat) (h : p + 4 ≤ text.data.toList.length) : text.data.toList.drop p = (be 4 (numAt text p 4)).map u8 ++ text.data.toList.drop (p + 4) := by
  unfold numAt
  rw [be_numOf4 _ (takeL_len _ _ _ h)]
  exact dropL_split _ _ _

/-- Right from the source on. -/
def Fr.Low (f : Fr) : Prop :=
  (0 ≤ f.src ∧ f.src ≤ 4294967295) ∧ (0 ≤ f.dst ∧ f.dst ≤ 4294967295) ∧ (0 ≤ f.proto ∧ f.proto ≤ 255) ∧ (0 ≤ f.sport ∧ f.sport ≤ 65535) ∧ (0 ≤ f.dport ∧ f.dport ≤ 65535) ∧
  (0 ≤ f.mark ∧ f.mark ≤ 3) ∧ (0 ≤ f.sum ∧ f.sum ≤ 65535) ∧ f.body.size ≤ 1500

theorem tail_back (text : ByteArray) (dest frm : Int) (T : List Int) (p : Nat) (x : Fr) (h : sTail text dest frm T p = (x, 0)) :
    x.to = dest ∧ x.frm = frm ∧ x.tags = T ∧ x.Low ∧ text.data.toList.drop p = x.mid.map u8 ++ x.body.data.toList := by
  have hz : text.data.toList.length = text.size := by rw [Array.length_toList]; rfl
  unfold sTail at h
  by_cases h1 : text.size < p + 14
  · rw [if_pos h1] at h; cases h
  rw [if_neg h1] at h
  by_cases h2 : 3 < numAt text (p + 13) 1
  · rw [if_pos h2] at h; cases h
  rw [if_neg h2] at h
  by_cases h3 : text.size < p + 18
  · rw [if_pos h3] at h; cases h
  rw [if_neg h3] at h
  by_cases h4 : 1500 < numAt text (p + 16) 2
  · rw [if_pos h4] at h; cases h
  rw [if_neg h4] at h
  by_cases h5 : (text.size : Int) < p + 18 + numAt text (p + 16) 2
  · rw [if_pos h5] at h; cases h
  rw [if_neg h5] at h
  by_cases h6 : p + 18 + numAt text (p + 16) 2 < (text.size : Int)
  · rw [if_pos h6] at h; cases h
  rw [if_neg h6] at h
  have hx := (Prod.mk.inj h).1
  have hb : (text.extract (p + 18) text.size).data.toList = text.data.toList.drop (p + 18) := by
    rw [Lib.extract_data, List.take_of_length_le]
    rw [List.length_drop]
    omega
  have hs : (text.extract (p + 18) text.size).size = text.size - (p + 18) := by
    have : (text.extract (p + 18) text.size).size = (text.extract (p + 18) text.size).data.toList.length := by rw [Array.length_toList]; rfl
    rw [this, hb, List.length_drop, hz]
  have hn : numAt text (p + 16) 2 = ((text.extract (p + 18) text.size).size : Int) := by rw [hs]; omega
  have b0 := numAt_lt4 text p (by omega)
  have b4 := numAt_lt4 text (p + 4) (by omega)
  have b8 := numAt_lt1 text (p + 8) (by omega)
  have b9 := numAt_lt2 text (p + 9) (by omega)
  have b11 := numAt_lt2 text (p + 11) (by omega)
  have b13 := numAt_lt1 text (p + 13) (by omega)
  have b14 := numAt_lt2 text (p + 14) (by omega)
  subst hx
  refine ⟨rfl, rfl, rfl, ⟨b0, b4, b8, b9, b11, ⟨b13.1, by show numAt text (p + 13) 1 ≤ 3; omega⟩, b14, by show (text.extract (p + 18) text.size).size ≤ 1500; omega⟩, ?_⟩
  show _ = (be 4 (numAt text p 4) ++ be 4 (numAt text (p + 4) 4) ++ be 1 (numAt text (p + 8) 1) ++ be 2 (numAt text (p + 9) 2) ++ be 2 (numAt text (p + 11) 2) ++ be 1 (numAt text (p + 13) 1) ++ be 2 (numAt text (p + 14) 2) ++ be 2 ((text.extract (p + 18) text.size).size : Int)).map u8 ++ (text.extract (p + 18) text.size).data.toList
  rw [hb, ← hn]
  simp only [List.map_append, List.append_assoc]
  rw [piece4 text p (by omega), piece4 text (p + 4) (by omega), piece1 text (p + 4 + 4) (by omega), piece2 text (p + 4 + 4 + 1) (by omega), piece2 text (p + 4 + 4 + 1 + 2) (by omega), piece1 text (p + 4 + 4 + 1 + 2 + 2) (by omega), piece2 text (p + 4 + 4 + 1 + 2 + 2 + 1) (by omega), piece2 text (p + 4 + 4 + 1 + 2 + 2 + 1 + 2) (by omega)]

theorem kind_back (text : ByteArray) (dest frm : Int) (x : Fr) : ∀ (k p : Nat) (T : List Int), sKind text dest frm k p T = (x, 0) →
    ∃ tags : List Int, tags.length ≤ k ∧ tags.all (inB 0 4095) = true ∧ x.to = dest ∧ x.frm = frm ∧ x.tags = T ++ tags ∧ x.Low ∧
      text.data.toList.drop p = (tagBytes tags).map u8 ++ (u8 2 :: (x.mid.map u8 ++ x.body.data.toList)) := by
  have hz : text.data.toList.length = text.size := by rw [Array.length_toList]; rfl
  have two : ∀ (k p : Nat) (T : List Int), ¬ text.size ≤ p → numAt text p 1 = 2 → sTail text dest frm T (p + 1) = (x, 0) →
      ∃ tags : List Int, tags.length ≤ k ∧ tags.all (inB 0 4095) = true ∧ x.to = dest ∧ x.frm = frm ∧ x.tags = T ++ tags ∧ x.Low ∧
        text.data.toList.drop p = (tagBytes tags).map u8 ++ (u8 2 :: (x.mid.map u8 ++ x.body.data.toList)) := by
    intro k p T h1 h2 h
    obtain ⟨e1, e2, e3, e4, e5⟩ := tail_back text dest frm T (p + 1) x h
    refine ⟨[], Nat.zero_le _, rfl, e1, e2, by rw [e3, List.append_nil], e4, ?_⟩
    rw [piece1 text p (by omega), h2, e5]
    rfl
  intro k
  induction k with
  | zero =>
    intro p T h
    rw [sKind] at h
    by_cases h1 : text.size ≤ p
    · rw [if_pos h1] at h; cases h
    rw [if_neg h1] at h
    by_cases h2 : numAt text p 1 = 2
    · rw [if_pos h2] at h
      exact two 0 p T h1 h2 h
    rw [if_neg h2] at h
    by_cases h3 : numAt text p 1 ≠ 1
    · rw [if_pos h3] at h; cases h
    · rw [if_neg h3] at h; cases h
  | succ k ih =>
    intro p T h
    rw [sKind] at h
    by_cases h1 : text.size ≤ p
    · rw [if_pos h1] at h; cases h
    rw [if_neg h1] at h
    by_cases h2 : numAt text p 1 = 2
    · rw [if_pos h2] at h
      exact two (k + 1) p T h1 h2 h
    rw [if_neg h2] at h
    by_cases h3 : numAt text p 1 ≠ 1
    · rw [if_pos h3] at h; cases h
    rw [if_neg h3] at h
    by_cases h4 : text.size < p + 3
    · rw [if_pos h4] at h; cases h
    rw [if_neg h4] at h
    by_cases h5 : 4095 < numAt text (p + 1) 2
    · rw [if_pos h5] at h; cases h
    rw [if_neg h5] at h
    obtain ⟨tags, t1, t2, e1, e2, e3, e4, e5⟩ := ih _ _ h
    have b := numAt_lt2 text (p + 1) (by omega)
    refine ⟨numAt text (p + 1) 2 :: tags, by rw [List.length_cons]; omega, ?_, e1, e2, by rw [e3, List.append_assoc]; rfl, e4, ?_⟩
    · rw [List.all_cons, Bool.and_eq_true]
      exact ⟨inB_true.2 ⟨b.1, by omega⟩, t2⟩
    · have h3' : numAt text p 1 = 1 := Classical.not_not.1 h3
      have e5' : text.data.toList.drop (p + 1 + 2) = (tagBytes tags).map u8 ++ (u8 2 :: (x.mid.map u8 ++ x.body.data.toList)) := e5
      rw [piece1 text p (by omega), piece2 text (p + 1) (by omega), e5', h3']
      simp [tagBytes, be]

/-- What is read without an error is right, and is shown as the text. -/
theorem run_back (text : ByteArray) (x : Fr) (h : sRun text = (x, 0)) : x.Ok ∧ text.data.toList = x.head.map u8 ++ x.body.data.toList := by
  have hz : text.data.toList.length = text.size := by rw [Array.length_toList]; rfl
  unfold sRun at h
  by_cases h1 : text.size < 4
  · rw [if_pos h1] at h; cases h
  rw [if_neg h1] at h
  obtain ⟨tags, t1, t2, e1, e2, e3, ⟨a1, a2, a3, a4, a5, a6, a7, a8⟩, e5⟩ := kind_back text _ _ x 2 4 [] h
  rw [List.nil_append] at e3
  have b0 := numAt_lt2 text 0 (by omega)
  have b2 := numAt_lt2 text 2 (by omega)
  refine ⟨⟨by rw [e1]; exact b0, by rw [e2]; exact b2, by rw [e3]; exact t1, a1, a2, a3, a4, a5, a6, a7, a8, by rw [e3]; exact t2⟩, ?_⟩
  have f0 := piece2 text 0 (by omega)
  have f2 := piece2 text 2 (by omega)
  rw [List.drop_zero] at f0
  have f2' : text.data.toList.drop (0 + 2) = (be 2 (numAt text 2 2)).map u8 ++ text.data.toList.drop 4 := f2
  rw [f0, f2', e5]
  simp only [Fr.head, Fr.outer, List.map_append, List.append_assoc, e1, e2, e3]
  rfl

/-- A right frame's show, as bytes. -/
theorem show_bytes (f : Fr) (ok : f.Ok) : f.show.data.toList = f.head.map u8 ++ f.body.data.toList := by
  rw [Fr.show, if_pos (Fr.ok_true.2 ok)]
  simp [strB, u8]
theorem show_size (f : Fr) (ok : f.Ok) : f.show.size = 23 + 3 * f.tags.length + f.body.size := by
  have hz : f.show.size = f.show.data.toList.length := by rw [Array.length_toList]; rfl
  have e2 : f.body.data.toList.length = f.body.size := by rw [Array.length_toList]; rfl
  rw [hz, show_bytes f ok, List.length_append, List.length_map, Fr.head_length, e2]
/-- What is read without an error is shown as the text. -/
theorem back_show (text : ByteArray) (x : Fr) (h : sRun text = (x, 0)) : x.show = text := by
  have := run_back text x h
  apply ByteArray.ext
  apply Array.toList_inj.1
  rw [show_bytes x this.1, this.2]
end Go.Proofs.YtgebghkcikmfaaaGreatDoor

/-
  Steps of a region that draws its order: a call by its contract; an append to a list of bytes of the call's own. By the verifier.
-/
namespace Go.Proofs.YtgebghkcikmfaaaGreatDoor
open Go.RowKit

theorem step_call {P : Program} {ops : Array Oper} {o : Oper} {a : Act} {w : World} {K : Act → World → Prop} {Q : Exit → Act → World → Prop} {E : Prop}
    (hg : o.guard = none) (f : FuncId) {az : Array Operand} {ts : Array TypeId} (_ho : o.op = .call { callee := .value (.func f), args := az, argTypes := ts }) (args : Array Value) (hrun : (execOp a.eval o).run P w = .ok (.enter f args) w) {post : Ending → World → Prop} (hc : Calls P f args w post)
    (h : ∀ e w', post e w' → ∃ v, e = .returned v ∧ K (a.put o.dst v) w') :
    if Region.wanted o (yielded ops a.tmps) = true then Oper.wp P o a w K Q else E := by
  have hw : Region.wanted o (yielded ops a.tmps) = true := by simp [Region.wanted, hg]
  rw [if_pos hw]
  unfold Oper.wp
  rw [hrun, Oper.upon_enter]
  refine hc.mono fun e w'' hh => ?_
  obtain ⟨v, rfl, hk⟩ := h e w'' hh
  exact hk

theorem row_lit0 (base : Nat) (w : World) (B : Nat) (hB : B = w.heap.size) (hb : base ≤ w.heap.size) : Row base (w.alloc (.cells #[] 5)) (.slice (some ⟨B, 0, none⟩) 0 0) [] := by
  subst hB
  exact World.ownsRow_lit (size := 1) w #[] 0 hb (by unfold maxLen; omega) rfl
end Go.Proofs.YtgebghkcikmfaaaGreatDoor

/-
  The walk of l2Inner: the bytes of a frame from its source on, as the model shows them. By the verifier.
-/
namespace Go.Proofs.YtgebghkcikmfaaaGreatDoor
open Go.RowKit

/-- A text's bytes as numbers. -/
def bytesB (s : ByteArray) : List Int := s.data.toList.map fun b => (b.toNat : Int)
theorem strCells_bytesB (s : ByteArray) : Lib.strCells s = (bytesB s).map (Value.int .u8) := by simp [Lib.strCells, bytesB]
theorem bytesB_length (s : ByteArray) : (bytesB s).length = s.size := by simp [bytesB]
/-- Numbers that can be shown. -/
def Fr.Shows (f : Fr) : Prop :=
  0 ≤ f.src ∧ 0 ≤ f.dst ∧ (0 ≤ f.proto ∧ f.proto ≤ 255) ∧ 0 ≤ f.sport ∧ 0 ≤ f.dport ∧ (0 ≤ f.mark ∧ f.mark ≤ 255) ∧ 0 ≤ f.sum ∧ f.body.size ≤ 100000
theorem Fr.Ok.shows {f : Fr} (h : f.Ok) : f.Shows := by
  obtain ⟨h1, h2, h3, h4, h5, h6, h7, h8, h9, h10, h11, h12⟩ := h
  exact ⟨h4.1, h5.1, h6, h7.1, h8.1, ⟨h9.1, by omega⟩, h10.1, by omega⟩
theorem be_one (n : Int) (h0 : 0 ≤ n) (h1 : n ≤ 255) : be 1 n = [n] := by
  simp only [be, Int.pow_zero, Int.ediv_one, List.cons.injEq, and_true]; omega

set_option maxHeartbeats 3200000 in
set_option maxRecDepth 100000 in
theorem specInner (f : Fr) (a : Option Addr) (cap : Nat) (w : World) (ok : Hid f.Shows) :
    Calls Tryz.prog 184 #[f.val a cap] w fun e w' => ∃ v', e = .returned v' ∧ Row w.heap.size w' v' (f.mid ++ bytesB f.body) ∧ Below w.heap.size w w' := by
  obtain ⟨h0, h1, ⟨h2, h3⟩, h4, h5, ⟨h6, h7⟩, h8, hB⟩ := ok.out
  obtain ⟨tt, frm, tags, src, dst, proto, sport, dport, mark, sum, body⟩ := f
  simp only [Fr.val] at h0 h1 h2 h3 h4 h5 h6 h7 h8 hB ⊢
  have e1 : Hid (be 1 proto = [proto]) := be_one proto h2 h3
  have e2 : Hid (be 1 mark = [mark]) := be_one mark h6 h7
  clear ok
  generalize tags.length = len
  go_enter Tryz.func184, Tryz.ntmps184
  go_upto_region 1 with fail
  have hbox := Boxed.new w #[.int .i64 tt, .int .i64 frm, .slice a len cap, .int .i64 src, .int .i64 dst, .int .i64 proto, .int .i64 sport, .int .i64 dport, .int .i64 mark, .int .i64 sum, .string body] 175
  generalize hw1 : w.alloc (.cells #[.int .i64 tt, .int .i64 frm, .slice a len cap, .int .i64 src, .int .i64 dst, .int .i64 proto, .int .i64 sport, .int .i64 dport, .int .i64 mark, .int .i64 sum, .string body] 175) = w1 at hbox ⊢
  have hs1 : w1.heap.size = w.heap.size + 1 := by rw [← hw1]; simp
  have H0 : Hid (Boxed w1 w.heap.size _ _ ∧ w1.heap.size = w.heap.size + 1) := ⟨hbox, hs1⟩
  have Hw1 : Hid (∀ w', Below (w.heap.size + 1) w1 w' → Below w.heap.size w w') := by
    show ∀ w', _
    intro w' g; rw [← hw1] at g; exact below_of_alloc g
  have hlt1 : w.heap.size < w1.heap.size := by omega
  clear hbox hw1 hs1
  have c3 := H0.out.1.cell 3 rfl
  have c4 := H0.out.1.cell 4 rfl
  go_cut [3] (fun s3 wc => Hid (Row (w.heap.size + 1) wc s3 (be 4 src ++ be 4 dst) ∧ Below (w.heap.size + 1) w1 wc))
  case first =>
    go_region_with (first | (go_at_call_of 233 (Value.int IntKind.i64 src); refine (specBytes (w.heap.size + 1) _ [] 4 src _ (by decide) (by decide) h0 ?_ ?_).mono ?_; (simp; omega); exact row_lit0 _ _ _ rfl hlt1; rintro e w2 ⟨v2, rfl, r2, b2⟩; have K2 : Hid (Row (w.heap.size + 1) w2 v2 ([] ++ be 4 src) ∧ Below (w.heap.size + 1) w1 w2) := ⟨r2, ((Below.refl _ w1).alloc hlt1 _).drew.trans b2⟩; have d4 := (H0.out.1.below (Nat.lt_succ_self _) K2.out.2).cell 4 rfl; have s2 : w.heap.size + 1 ≤ w2.heap.size := Nat.le_trans hlt1 K2.out.2.size; clear r2 b2) | (go_at_call_of 233 (Value.int IntKind.i64 dst); refine (specBytes (w.heap.size + 1) _ ([] ++ be 4 src) 4 dst _ (by decide) ?_ h1 ?_ ?_).mono ?_; (simp [be_length]); exact s2; exact K2.out.1; rintro e w3 ⟨v3, rfl, r3, b3⟩; have K3 : Hid (Row (w.heap.size + 1) w3 v3 (be 4 src ++ be 4 dst) ∧ Below (w.heap.size + 1) w1 w3) := ⟨r3, K2.out.2.trans b3⟩; clear r3 b3))
    all_goals (go_wp2_with fail; go_meet; exact K3)
  case rest =>
    have s1 : w.heap.size + 1 ≤ wc.heap.size := Nat.le_trans hlt1 hcut.out.2.size
    have d5 := (H0.out.1.below (Nat.lt_succ_self _) hcut.out.2).cell 5 rfl
    clear c3 c4
    go_wp2_with (at_builtin; refine row_app1 rfl (.tmp 11) (.tmp 15) rfl (w.heap.size + 1) _ (be 4 src ++ be 4 dst) proto rfl hcut.out.1 rfl ?_ s1 ?_)
    · simp [be_length]
    intro v4 w4 r4 b4
    have K4 : Hid (Row (w.heap.size + 1) w4 v4 (be 4 src ++ be 4 dst ++ [proto]) ∧ Below (w.heap.size + 1) w1 w4) := ⟨r4, hcut.out.2.trans b4⟩
    have s4 : w.heap.size + 1 ≤ w4.heap.size := Nat.le_trans hlt1 K4.out.2.size
    have d6 := (H0.out.1.below (Nat.lt_succ_self _) K4.out.2).cell 6 rfl
    have d7 := (H0.out.1.below (Nat.lt_succ_self _) K4.out.2).cell 7 rfl
    clear r4 b4 d5 hcut
    go_upto_region 3 with fail
    go_cut [3] (fun s3 wc => Hid (Row (w.heap.size + 1) wc s3 (be 4 src ++ be 4 dst ++ [proto] ++ be 2 sport ++ be 2 dport) ∧ Below (w.heap.size + 1) w1 wc))
    case first =>
      go_region_with (first | (go_at_call_of 233 (Value.int IntKind.i64 sport); refine (specBytes (w.heap.size + 1) _ (be 4 src ++ be 4 dst ++ [proto]) 2 sport _ (by decide) ?_ h4 ?_ ?_).mono ?_; (simp [be_length]); exact s4; exact K4.out.1; rintro e w5 ⟨v5, rfl, r5, b5⟩; have K5 : Hid (Row (w.heap.size + 1) w5 v5 (be 4 src ++ be 4 dst ++ [proto] ++ be 2 sport) ∧ Below (w.heap.size + 1) w1 w5) := ⟨r5, K4.out.2.drew.trans b5⟩; have e7 := (H0.out.1.below (Nat.lt_succ_self _) K5.out.2).cell 7 rfl; have s5 : w.heap.size + 1 ≤ w5.heap.size := Nat.le_trans hlt1 K5.out.2.size; clear r5 b5) | (go_at_call_of 233 (Value.int IntKind.i64 dport); refine (specBytes (w.heap.size + 1) _ (be 4 src ++ be 4 dst ++ [proto] ++ be 2 sport) 2 dport _ (by decide) ?_ h5 ?_ ?_).mono ?_; (simp [be_length]); exact s5; exact K5.out.1; rintro e w6 ⟨v6, rfl, r6, b6⟩; have K6 : Hid (Row (w.heap.size + 1) w6 v6 (be 4 src ++ be 4 dst ++ [proto] ++ be 2 sport ++ be 2 dport) ∧ Below (w.heap.size + 1) w1 w6) := ⟨r6, K5.out.2.trans b6⟩; clear r6 b6))
      all_goals (go_wp2_with fail; go_meet; exact K6)
    case rest =>
      clear K4 d6 d7
      have s6 : w.heap.size + 1 ≤ wc.heap.size := Nat.le_trans hlt1 hcut.out.2.size
      have d8 := (H0.out.1.below (Nat.lt_succ_self _) hcut.out.2).cell 8 rfl
      go_wp2_with (at_builtin; refine row_app1 rfl (.tmp 24) (.tmp 28) rfl (w.heap.size + 1) _ (be 4 src ++ be 4 dst ++ [proto] ++ be 2 sport ++ be 2 dport) mark rfl hcut.out.1 rfl ?_ s6 ?_)
      · simp [be_length]
      intro v7 w7 r7 b7
      have K7 : Hid (Row (w.heap.size + 1) w7 v7 (be 4 src ++ be 4 dst ++ [proto] ++ be 2 sport ++ be 2 dport ++ [mark]) ∧ Below (w.heap.size + 1) w1 w7) := ⟨r7, hcut.out.2.trans b7⟩
      have s7 : w.heap.size + 1 ≤ w7.heap.size := Nat.le_trans hlt1 K7.out.2.size
      have d9 := (H0.out.1.below (Nat.lt_succ_self _) K7.out.2).cell 9 rfl
      have d10 := (H0.out.1.below (Nat.lt_succ_self _) K7.out.2).cell 10 rfl
      clear r7 b7 d8 hcut
      go_upto_region 5 with fail
      go_cut [3] (fun s3 wc => Hid (Row (w.heap.size + 1) wc s3 (be 4 src ++ be 4 dst ++ [proto] ++ be 2 sport ++ be 2 dport ++ [mark] ++ be 2 sum ++ be 2 body.size) ∧ Below (w.heap.size + 1) w1 wc))
      case first =>
        go_region_with (first | (go_at_call_of 233 (Value.int IntKind.i64 sum); refine (specBytes (w.heap.size + 1) _ (be 4 src ++ be 4 dst ++ [proto] ++ be 2 sport ++ be 2 dport ++ [mark]) 2 sum _ (by decide) ?_ h8 ?_ ?_).mono ?_; (simp [be_length]); exact s7; exact K7.out.1; rintro e w8 ⟨v8, rfl, r8, b8⟩; have K8 : Hid (Row (w.heap.size + 1) w8 v8 (be 4 src ++ be 4 dst ++ [proto] ++ be 2 sport ++ be 2 dport ++ [mark] ++ be 2 sum) ∧ Below (w.heap.size + 1) w1 w8) := ⟨r8, K7.out.2.drew.trans b8⟩; have e10 := (H0.out.1.below (Nat.lt_succ_self _) K8.out.2).cell 10 rfl; have s8 : w.heap.size + 1 ≤ w8.heap.size := Nat.le_trans hlt1 K8.out.2.size; clear r8 b8) | (go_at_call_of 233 (Value.int IntKind.i64 (body.size : Int)); refine (specBytes (w.heap.size + 1) _ (be 4 src ++ be 4 dst ++ [proto] ++ be 2 sport ++ be 2 dport ++ [mark] ++ be 2 sum) 2 body.size _ (by decide) ?_ ?_ ?_ ?_).mono ?_; (simp [be_length]); exact Int.natCast_nonneg _; exact s8; exact K8.out.1; rintro e w9 ⟨v9, rfl, r9, b9⟩; have K9 : Hid (Row (w.heap.size + 1) w9 v9 (be 4 src ++ be 4 dst ++ [proto] ++ be 2 sport ++ be 2 dport ++ [mark] ++ be 2 sum ++ be 2 body.size) ∧ Below (w.heap.size + 1) w1 w9) := ⟨r9, K8.out.2.trans b9⟩; clear r9 b9))
        all_goals (go_wp2_with fail; go_meet; exact K9)
      case rest =>
        clear K7 d9 d10
        have s9 : w.heap.size + 1 ≤ wc.heap.size := Nat.le_trans hlt1 hcut.out.2.size
        have d10 := (H0.out.1.below (Nat.lt_succ_self _) hcut.out.2).cell 10 rfl
        obtain ⟨i0, hi, hz0, hz1, hz2⟩ := info_parts info5
        have Hi : Hid _ := hi
        have Hz0 : Hid _ := hz0
        have Hz1 : Hid _ := hz1
        have Hz2 : Hid _ := hz2
        clear hi hz0 hz1 hz2
        go_wp2_with (at_builtin; refine Lib.wpList_append_own_string _ rfl (.tmp 38) (.tmp 40) 224 9 rfl (w.heap.size + 1) 5 i0 Tryz.underlying224 Tryz.underlying9 Hi.out Hz0.out Hz1.out Hz2.out _ _ _ rfl hcut.out.1 body rfl ?_ ?_ s9 ?_)
        · simp only [List.length_append, be_length, List.length_cons, List.length_nil]; unfold maxLen; omega
        · simp only [List.length_append, be_length, List.length_cons, List.length_nil]; omega
        intro v10 w10 r10 b10 _
        have K10 : Hid (Row (w.heap.size + 1) w10 v10 ((be 4 src ++ be 4 dst ++ [proto] ++ be 2 sport ++ be 2 dport ++ [mark] ++ be 2 sum ++ be 2 body.size) ++ bytesB body) ∧ Below (w.heap.size + 1) w1 w10) := ⟨row_more (bytesB_length body) (by rw [← strCells_bytesB]; exact r10), hcut.out.2.grown b10 s9 (fun k hk => Row.block hcut.out.1 k hk)⟩
        clear r10 b10 d10 hcut
        go_wp2
        go_ret
        refine ⟨v10, rfl, ?_, Hw1.out _ K10.out.2⟩
        simp only [Fr.mid]
        rw [e1.out, e2.out]
        exact K10.out.1.mono (Nat.le_succ _)
end Go.Proofs.YtgebghkcikmfaaaGreatDoor
