import Derived.RowKit3
import Derived.Below
import Derived.Test.YtdifegaokdoleaaRows
import Derived.WalkKit
import Derived.WalkSpells
import Derived.WalkLawsBesides
import Derived.Handy
/-
  Frames as plain data: which are right, and the bytes that are shown ahead of a body. By the verifier.
-/
namespace Go.Proofs.Ytdifegaokdoleaa
open Go.RowKit

/-- A frame: its numbers, its tags, its body. -/
structure Fr where
  to : Int
  frm : Int
  tags : List Int
  src : Int
  dst : Int
  proto : Int
  sport : Int
  dport : Int
  mark : Int
  sum : Int
  body : ByteArray

/-- From lo to hi. -/
def inB (lo hi n : Int) : Bool := decide (lo ≤ n ∧ n ≤ hi)
theorem inB_true {lo hi n : Int} : inB lo hi n = true ↔ lo ≤ n ∧ n ≤ hi := by simp [inB]
theorem inB_false {lo hi n : Int} : inB lo hi n = false ↔ n < lo ∨ hi < n := by simp [inB]; omega

/-- A right frame. -/
def Fr.Ok (f : Fr) : Prop :=
  (0 ≤ f.to ∧ f.to ≤ 65535) ∧ (0 ≤ f.frm ∧ f.frm ≤ 65535) ∧ f.tags.length ≤ 2 ∧ (0 ≤ f.src ∧ f.src ≤ 4294967295) ∧ (0 ≤ f.dst ∧ f.dst ≤ 4294967295) ∧
  (0 ≤ f.proto ∧ f.proto ≤ 255) ∧ (0 ≤ f.sport ∧ f.sport ≤ 65535) ∧ (0 ≤ f.dport ∧ f.dport ≤ 65535) ∧ (0 ≤ f.mark ∧ f.mark ≤ 3) ∧ (0 ≤ f.sum ∧ f.sum ≤ 65535) ∧
  f.body.size ≤ 1500 ∧ f.tags.all (inB 0 4095) = true
def Fr.okDec (f : Fr) : Decidable f.Ok := by unfold Fr.Ok; exact inferInstance
/-- As a flag. -/
def Fr.ok (f : Fr) : Bool := @decide f.Ok f.okDec
theorem Fr.ok_true {f : Fr} : f.ok = true ↔ f.Ok := @decide_eq_true_iff f.Ok f.okDec
theorem Fr.ok_false {f : Fr} : f.ok = false ↔ ¬ f.Ok := @decide_eq_false_iff_not f.Ok f.okDec

/-- n in k bytes, the highest first. -/
def be : Nat → Int → List Int
  | 0, _ => []
  | k + 1, n => (n / 256 ^ k % 256) :: be k n
theorem be_length (k : Nat) (n : Int) : (be k n).length = k := by induction k with
  | zero => rfl
  | succ k ih => simp [be, ih]
theorem be_byte (k : Nat) (n : Int) : ∀ x ∈ be k n, 0 ≤ x ∧ x ≤ 255 := by induction k with
  | zero => simp [be]
  | succ k ih =>
    intro x hx
    simp only [be, List.mem_cons] at hx
    rcases hx with rfl | hx
    · omega
    · exact ih x hx

/-- The tags as they are shown. -/
def tagBytes : List Int → List Int
  | [] => []
  | z :: r => 1 :: (be 2 z ++ tagBytes r)
theorem tagBytes_append (a b : List Int) : tagBytes (a ++ b) = tagBytes a ++ tagBytes b := by induction a with
  | nil => rfl
  | cons x r ih => simp [tagBytes, ih]
theorem tagBytes_length (a : List Int) : (tagBytes a).length = 3 * a.length := by induction a with
  | nil => rfl
  | cons x r ih => simp [tagBytes, ih, be_length]; omega
/-- Up to the tags' end. -/
def Fr.outer (f : Fr) : List Int := be 2 f.to ++ be 2 f.frm ++ tagBytes f.tags
/-- From the source on, ahead of the body. -/
def Fr.mid (f : Fr) : List Int :=
  be 4 f.src ++ be 4 f.dst ++ be 1 f.proto ++ be 2 f.sport ++ be 2 f.dport ++ be 1 f.mark ++ be 2 f.sum ++ be 2 f.body.size
/-- All that is shown ahead of the body. -/
def Fr.head (f : Fr) : List Int := f.outer ++ [2] ++ f.mid
theorem Fr.outer_length (f : Fr) : f.outer.length = 4 + 3 * f.tags.length := by simp [Fr.outer, be_length, tagBytes_length]; omega
theorem Fr.mid_length (f : Fr) : f.mid.length = 18 := by simp [Fr.mid, be_length]
theorem Fr.head_length (f : Fr) : f.head.length = 23 + 3 * f.tags.length := by simp [Fr.head, Fr.outer_length, Fr.mid_length]; omega

/-- Bytes as a text. -/
def strB (xs : List Int) : ByteArray := ⟨(xs.map fun n => UInt8.ofNat n.toNat).toArray⟩
/-- What a frame is shown as. -/
def Fr.show (f : Fr) : ByteArray := if f.ok then strB f.head ++ f.body else ByteArray.empty
/-- How long the head is. -/
def Fr.headSize (f : Fr) : Int := if f.ok then 23 + 3 * (f.tags.length : Int) else 0

/-- Cells that hold these numbers. -/
def IntsAt (w : World) (a : Option Addr) (zs : List Int) : Prop :=
  ∀ k, k < zs.length → ∃ b off, a = some ⟨b, off, none⟩ ∧ b < w.heap.size ∧ w.cell? ⟨b, off + k, none⟩ = some (.int .i64 (zs[k]?.getD 0))
theorem IntsAt.below {w w' : World} {a : Option Addr} {zs : List Int} (h : IntsAt w a zs) (g : Below w.heap.size w w') : IntsAt w' a zs := by
  intro k hk
  obtain ⟨b, off, e, hb, hc⟩ := h k hk
  exact ⟨b, off, e, Nat.lt_of_lt_of_le hb g.size, by rw [g.cell (p := ⟨b, off + k, none⟩) hb]; exact hc⟩
theorem IntsAt.alloc {w : World} {a : Option Addr} {zs : List Int} (h : IntsAt w a zs) (o : Obj) : IntsAt (w.alloc o) a zs :=
  h.below ((Below.refl _ _).alloc (Nat.le_refl _) _)
theorem IntsAt.nil (w : World) (a : Option Addr) : IntsAt w a [] := by intro k hk; simp at hk
/-- A frame as a value. -/
def Fr.val (f : Fr) (a : Option Addr) (cap : Nat) : Value :=
  .agg #[.int .i64 f.to, .int .i64 f.frm, .slice a f.tags.length cap, .int .i64 f.src, .int .i64 f.dst, .int .i64 f.proto, .int .i64 f.sport, .int .i64 f.dport, .int .i64 f.mark, .int .i64 f.sum, .string f.body]
theorem ints_new (w : World) (t : TypeId) (zs : List Int) (cs : Array Value) (B : Nat) (hB : B = w.heap.size) (h : cs = (zs.map (Value.int .i64)).toArray) : IntsAt (w.alloc (.cells cs t)) (some ⟨B, 0, none⟩) zs := by
  subst hB; subst h
  intro k hk
  refine ⟨_, _, rfl, by simp, ?_⟩
  rw [World.cell?_alloc_new w _ _ (0 + k)]
  simp [List.getElem?_eq_getElem hk]
theorem bel_alloc {B : Nat} {w w' : World} (h : Below B w w') (hB : B ≤ w.heap.size) (o : Obj) : Below B w (w'.alloc o) := h.alloc (Nat.le_trans hB h.size) o
end Go.Proofs.Ytdifegaokdoleaa

/-
  The walks of withNumber and l2Bytes: a number's bytes, the highest first, behind a list of the call's own. By the verifier.
-/
namespace Go.Proofs.Ytdifegaokdoleaa
open Go.RowKit

/-- A list of bytes of the call's own. -/
def Row (base : Nat) (w : World) (v : Value) (xs : List Int) : Prop := w.ownsRow base 5 1 v xs.length (xs.map (Value.int .u8))
theorem Row.nil (base : Nat) (w : World) : Row base w (.slice none 0 0) [] := World.ownsRow_nil _ _ _ _
theorem Row.alloc {base : Nat} {w : World} {v : Value} {xs : List Int} (h : Row base w v xs) (o : Obj) : Row base (w.alloc o) v xs := World.ownsRow.alloc h o
theorem Row.drew {base : Nat} {w : World} {v : Value} {xs : List Int} (h : Row base w v xs) : Row base w.drew v xs := World.ownsRow.drew h
theorem Row.block {base : Nat} {w : World} {v : Value} {xs : List Int} (h : Row base w v xs) : ∀ k, v.ownBlock = some k → base ≤ k := fun k hk => (World.ownsRow.lt h k hk).1
theorem info5 : (Try.prog.info? 5).map (fun i => (i.zero, i.size, i.bytes)) = some (some (.int .u8 0), 1, 1) := by kernel_rfl
theorem row_more {base : Nat} {w : World} {v : Value} {xs ys : List Int} {m : Nat} (hm : ys.length = m) (h : w.ownsRow base 5 1 v (xs.length + m) (xs.map (Value.int .u8) ++ ys.map (Value.int .u8))) : Row base w v (xs ++ ys) := by
  subst hm
  unfold Row
  rw [List.length_append, List.map_append]
  exact h

theorem shr_byte (n : Int) (k : Nat) : n / 2 ^ (8 * k) % 256 = n / 256 ^ k % 256 := by
  rw [Int.pow_mul]; rfl

/-- One byte more, behind a list of the call's own. -/
theorem row_app1 {ops : Array Oper} {rest : List Oper} {o : Oper} {a : Act} {Q : Exit → Act → World → Prop} {w : World} (hgd : o.guard = none) (s x : Operand)
    (ho : o.op = .call { callee := .builtin .append, args := #[s, x], argTypes := #[22, 22] })
    (base : Nat) (v : Value) (xs : List Int) (y : Int) (hs : a.eval s = v) (hrow : Row base w v xs) (hx : a.eval x = .slice (some ⟨w.heap.size, 0, none⟩) 1 1)
    (hlen : xs.length ≤ 1000000) (hb : base ≤ w.heap.size)
    (h : ∀ v' w', Row base w' v' (xs ++ [y]) → Below base w w' → wpList Try.prog ops Q rest (a.put o.dst v') w') :
    wpList Try.prog ops Q (o :: rest) a (w.alloc (.cells #[.int .u8 y] 5)) := by
  obtain ⟨i0, hi, hz0, hz1, hz2⟩ := info_parts info5
  refine wpList_append_own _ hgd s x 22 ho base 5 i0 (.int .u8 0) 1 1 Try.underlying22 hi hz0 hz1 hz2 rfl (by decide) _ _ _ hs (Row.alloc hrow _) ⟨w.heap.size, 0, none⟩ 1 1 [.int .u8 y] hx rfl ?_ ?_ ?_ ?_ ?_ ?_
  · intro j u hj
    match j, hj with
    | 0, hj => simp at hj; subst hj; simp [Addr.add]
  · intro u hu; simp at hu; subst hu; rfl
  · unfold maxLen; omega
  · omega
  · simp; omega
  · intro v' w' h1 h2 _
    refine h v' w' (row_more (m := 1) (ys := [y]) rfl (by simpa using h1)) ?_
    exact ((Below.refl base w).alloc hb _).grown h2 (by simp; omega) (fun k hk => Row.block hrow k hk)

theorem be_succ_split {P : List Int} {k size : Nat} {n : Int} (h : P ++ be (k + 1) n = be size n) : (P ++ [n / 2 ^ (8 * k) % 256]) ++ be k n = be size n := by
  rw [← h, shr_byte]; simp [be]

set_option maxHeartbeats 1600000 in
theorem specBytes (base : Nat) (v : Value) (xs : List Int) (size : Nat) (n : Int) (w : World) (hs : size ≤ 8) (hx : xs.length ≤ 4000) (n0 : 0 ≤ n) (hb : base ≤ w.heap.size) (own : Hid (Row base w v xs)) :
    Calls Try.prog 89 #[v, .int .i64 n, .int .i64 size] w fun e w' => ∃ v', e = .returned v' ∧ Row base w' v' (xs ++ be size n) ∧ Below base w w' := by
  go_enter Try.func89, Try.ntmps89
  go_wp2
  go_loopw [0, 7] (fun v i wr => ∃ (k : Nat) (P : List Int), k ≤ size ∧ i = .int .i64 ((k : Int) - 1) ∧ P.length + k = size ∧ Hid (P ++ be k n = be size n) ∧ Hid (Row base wr v (xs ++ P)) ∧ Hid (Below base w wr)) (fun _ i _ => (intOf i + 1).toNat)
  case atStart => exact ⟨size, [], Nat.le_refl _, rfl, by simp, rfl, by simpa only [List.append_nil] using own, Below.refl _ _⟩
  case round =>
    obtain ⟨k, P, hk, rfl, hP, hbe, hrow, hbel⟩ := hrel
    cases k with
    | zero =>
      go_wp2
      go_ret
      refine ⟨_, rfl, ?_, hbel.out⟩
      have := hbe.out
      simp only [be, List.append_nil] at this
      rw [← this]; exact hrow.out
    | succ k =>
      have hsz := hbel.out.size
      have y0 : (n / 2 ^ (8 * k)).tmod 256 = n / 2 ^ (8 * k) % 256 := Int.tmod_eq_emod_of_nonneg (Int.ediv_nonneg n0 (Int.le_of_lt (Int.pow_pos (by decide))))
      go_wp2_with (at_builtin; refine row_app1 rfl (.tmp 14) (.tmp 22) rfl base _ (xs ++ P) (n / 2 ^ (8 * k) % 256) rfl hrow.out rfl ?_ ?_ ?_)
      · rw [List.length_append]; omega
      · omega
      · intro v' w' h1 h2
        have H1 : Hid (Row base w' v' (xs ++ (P ++ [n / 2 ^ (8 * k) % 256]))) := h1
        have H2 : Hid (Below base w w') := hbel.out.trans h2
        clear h1 h2
        go_wp2
        go_roundw
        case rel => exact ⟨k, P ++ [n / 2 ^ (8 * k) % 256], by omega, by go_num, by simp; omega, be_succ_split hbe.out, H1, H2⟩
        case measure => simp [intOf]
end Go.Proofs.Ytdifegaokdoleaa
