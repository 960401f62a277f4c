import Derived.RowKit3
import Derived.Below
import Derived.Test.YtkocbfikcjgigaaGreatRows
import Derived.WalkKit
import Derived.WalkSpells
import Derived.WalkLawsBesides
import Derived.Test.YtkocbfikcjgigaaGreatM0DuOrd
/-
  Frames as plain data: which are right, and the bytes that are shown ahead of a body. By the verifier.
-/
namespace Go.Proofs.YtkocbfikcjgigaaGreat
open Go.RowKit

/-- A frame: its numbers, its tags, its body. -/
structure Fr where
  to : Int
  frm : Int
  tags : List Int
  src : Int
  dst : Int
  proto : Int
  sport : Int
  dport : Int
  mark : Int
  sum : Int
  body : ByteArray

/-- From lo to hi. -/
def inB (lo hi n : Int) : Bool := decide (lo ≤ n ∧ n ≤ hi)
theorem inB_true {lo hi n : Int} : inB lo hi n = true ↔ lo ≤ n ∧ n ≤ hi := by simp [inB]
theorem inB_false {lo hi n : Int} : inB lo hi n = false ↔ n < lo ∨ hi < n := by simp [inB]; omega

/-- A right frame. -/
def Fr.Ok (f : Fr) : Prop :=
  (0 ≤ f.to ∧ f.to ≤ 65535) ∧ (0 ≤ f.frm ∧ f.frm ≤ 65535) ∧ f.tags.length ≤ 2 ∧ (0 ≤ f.src ∧ f.src ≤ 4294967295) ∧ (0 ≤ f.dst ∧ f.dst ≤ 4294967295) ∧
  (0 ≤ f.proto ∧ f.proto ≤ 255) ∧ (0 ≤ f.sport ∧ f.sport ≤ 65535) ∧ (0 ≤ f.dport ∧ f.dport ≤ 65535) ∧ (0 ≤ f.mark ∧ f.mark ≤ 3) ∧ (0 ≤ f.sum ∧ f.sum ≤ 65535) ∧
  f.body.size ≤ 1500 ∧ f.tags.all (inB 0 4095) = true
def Fr.okDec (f : Fr) : Decidable f.Ok := by unfold Fr.Ok; exact inferInstance
/-- As a flag. -/
def Fr.ok (f : Fr) : Bool := @decide f.Ok f.okDec
theorem Fr.ok_true {f : Fr} : f.ok = true ↔ f.Ok := @decide_eq_true_iff f.Ok f.okDec
theorem Fr.ok_false {f : Fr} : f.ok = false ↔ ¬ f.Ok := @decide_eq_false_iff_not f.Ok f.okDec

/-- n in k bytes, the highest first. -/
def be : Nat → Int → List Int
  | 0, _ => []
  | k + 1, n => (n / 256 ^ k % 256) :: be k n
theorem be_length (k : Nat) (n : Int) : (be k n).length = k := by induction k with
  | zero => rfl
  | succ k ih => simp [be, ih]
theorem be_byte (k : Nat) (n : Int) : ∀ x ∈ be k n, 0 ≤ x ∧ x ≤ 255 := by induction k with
  | zero => simp [be]
  | succ k ih =>
    intro x hx
    simp only [be, List.mem_cons] at hx
    rcases hx with rfl | hx
    · omega
    · exact ih x hx

/-- The tags as they are shown. -/
def tagBytes : List Int → List Int
  | [] => []
  | z :: r => 1 :: (be 2 z ++ tagBytes r)
theorem tagBytes_append (a b : List Int) : tagBytes (a ++ b) = tagBytes a ++ tagBytes b := by induction a with
  | nil => rfl
  | cons x r ih => simp [tagBytes, ih]
theorem tagBytes_length (a : List Int) : (tagBytes a).length = 3 * a.length := by induction a with
  | nil => rfl
  | cons x r ih => simp [tagBytes, ih, be_length]; omega
/-- Up to the tags' end. -/
def Fr.outer (f : Fr) : List Int := be 2 f.to ++ be 2 f.frm ++ tagBytes f.tags
/-- From the source on, ahead of the body. -/
def Fr.mid (f : Fr) : List Int :=
  be 4 f.src ++ be 4 f.dst ++ be 1 f.proto ++ be 2 f.sport ++ be 2 f.dport ++ be 1 f.mark ++ be 2 f.sum ++ be 2 f.body.size
/-- All that is shown ahead of the body. -/
def Fr.head (f : Fr) : List Int := f.outer ++ [2] ++ f.mid
theorem Fr.outer_length (f : Fr) : f.outer.length = 4 + 3 * f.tags.length := by simp [Fr.outer, be_length, tagBytes_length]; omega
theorem Fr.mid_length (f : Fr) : f.mid.length = 18 := by simp [Fr.mid, be_length]
theorem Fr.head_length (f : Fr) : f.head.length = 23 + 3 * f.tags.length := by simp [Fr.head, Fr.outer_length, Fr.mid_length]; omega

/-- Bytes as a text. -/
def strB (xs : List Int) : ByteArray := ⟨(xs.map fun n => UInt8.ofNat n.toNat).toArray⟩
/-- What a frame is shown as. -/
def Fr.show (f : Fr) : ByteArray := if f.ok then strB f.head ++ f.body else ByteArray.empty
/-- How long the head is. -/
def Fr.headSize (f : Fr) : Int := if f.ok then 23 + 3 * (f.tags.length : Int) else 0

/-- Cells that hold these numbers. -/
def IntsAt (w : World) (a : Option Addr) (zs : List Int) : Prop :=
  ∀ k, k < zs.length → ∃ b off, a = some ⟨b, off, none⟩ ∧ b < w.heap.size ∧ w.cell? ⟨b, off + k, none⟩ = some (.int .i64 (zs[k]?.getD 0))
theorem IntsAt.below {w w' : World} {a : Option Addr} {zs : List Int} (h : IntsAt w a zs) (g : Below w.heap.size w w') : IntsAt w' a zs := by
  intro k hk
  obtain ⟨b, off, e, hb, hc⟩ := h k hk
  exact ⟨b, off, e, Nat.lt_of_lt_of_le hb g.size, by rw [g.cell (p := ⟨b, off + k, none⟩) hb]; exact hc⟩
theorem IntsAt.alloc {w : World} {a : Option Addr} {zs : List Int} (h : IntsAt w a zs) (o : Obj) : IntsAt (w.alloc o) a zs :=
  h.below ((Below.refl _ _).alloc (Nat.le_refl _) _)
theorem IntsAt.nil (w : World) (a : Option Addr) : IntsAt w a [] := by intro k hk; simp at hk
/-- A frame as a value. -/
def Fr.val (f : Fr) (a : Option Addr) (cap : Nat) : Value :=
  .agg #[.int .i64 f.to, .int .i64 f.frm, .slice a f.tags.length cap, .int .i64 f.src, .int .i64 f.dst, .int .i64 f.proto, .int .i64 f.sport, .int .i64 f.dport, .int .i64 f.mark, .int .i64 f.sum, .string f.body]
theorem ints_new (w : World) (t : TypeId) (zs : List Int) (cs : Array Value) (B : Nat) (hB : B = w.heap.size) (h : cs = (zs.map (Value.int .i64)).toArray) : IntsAt (w.alloc (.cells cs t)) (some ⟨B, 0, none⟩) zs := by
  subst hB; subst h
  intro k hk
  refine ⟨_, _, rfl, by simp, ?_⟩
  rw [World.cell?_alloc_new w _ _ (0 + k)]
  simp [List.getElem?_eq_getElem hk]
theorem bel_alloc {B : Nat} {w w' : World} (h : Below B w w') (hB : B ≤ w.heap.size) (o : Obj) : Below B w (w'.alloc o) := h.alloc (Nat.le_trans hB h.size) o
end Go.Proofs.YtkocbfikcjgigaaGreat

/-
  Numbers within bounds, the model's way. By the verifier.
-/
namespace Go.Proofs.YtkocbfikcjgigaaGreat
open Go.RowKit

theorem ret_bool {a b : Bool} (h : a = b) : Ending.returned (.bool a) = .returned (.bool b) := by rw [h]
theorem ret_num {a b : Int} (h : a = b) : Ending.returned (.int .i64 a) = .returned (.int .i64 b) := by rw [h]
theorem specIn (n lo hi : Int) (w : World) :
    Calls Tryz.prog 40 #[.int .i64 n, .int .i64 lo, .int .i64 hi] w fun e w' => e = .returned (.bool (inB lo hi n)) ∧ w' = w := by
  by_cases h0 : lo ≤ n
  · by_cases h1 : n ≤ hi
    · have h : inB lo hi n = true := by rw [inB_true]; omega
      rw [h]
      go_enter Tryz.func40, Tryz.ntmps40
      go_wp2
      go_ret
      exact ⟨rfl, rfl⟩
    · have h : inB lo hi n = false := by rw [inB_false]; omega
      rw [h]
      go_enter Tryz.func40, Tryz.ntmps40
      go_wp2
      go_ret
      exact ⟨rfl, rfl⟩
  · have h : inB lo hi n = false := by rw [inB_false]; omega
    rw [h]
    go_enter Tryz.func40, Tryz.ntmps40
    go_wp2
    go_ret
    exact ⟨rfl, rfl⟩
end Go.Proofs.YtkocbfikcjgigaaGreat

/-
  Heaps of dues as plain functions: which are right, one put in, the first one taken; what they leave. By the verifier.
-/
namespace Go.Proofs.YtkocbfikcjgigaaGreat
open Go.RowKit

def Du.ok (d : Du) : Bool := inB 0 1099511627776 d.time && inB 1 1000000 d.id
abbrev Du.same (a b : Du) : Prop := a.time = b.time ∧ a.id = b.id
theorem Du.same_iff {a b : Du} : a.same b ↔ a = b := by
  cases a; cases b
  simp [Du.same]
/-- Is one among them? -/
def duHas (l : List Du) (d : Du) : Bool := l.any fun x => decide (x.same d)
theorem duHas_iff {l : List Du} {d : Du} : duHas l d = true ↔ d ∈ l := by
  unfold duHas
  rw [List.any_eq_true]
  constructor
  · rintro ⟨x, hx, h⟩
    rw [← Du.same_iff.1 (of_decide_eq_true h)]
    exact hx
  · intro h
    exact ⟨d, h, decide_eq_true (Du.same_iff.2 rfl)⟩
theorem duHas_false {l : List Du} {d : Du} : duHas l d = false ↔ d ∉ l := by
  rw [← duHas_iff]
  simp
theorem duHas_at {l : List Du} {d : Du} : duHas l d = true ↔ ∃ j, j < l.length ∧ duAt l j = d := by
  rw [duHas_iff, List.mem_iff_getElem]
  constructor
  · rintro ⟨i, hi, h⟩
    exact ⟨i, hi, by rw [duAt_lt hi]; exact h⟩
  · rintro ⟨i, hi, h⟩
    exact ⟨i, hi, by rw [← duAt_lt hi]; exact h⟩
/-- Is the one at j right? -/
def duGood (l : List Du) (j : Nat) : Bool := (duAt l j).ok && (!duHas (l.take j) (duAt l j) && !(decide (0 < j) && decide ((duAt l j).lt (duAt l ((j - 1) / 2)))))
def hok (l : List Du) : Bool := decide (l.length ≤ 60) && (List.range l.length).all (duGood l)
theorem hok_iff {l : List Du} : hok l = true ↔ l.length ≤ 60 ∧ ∀ j, j < l.length → duGood l j = true := by
  unfold hok
  simp only [Bool.and_eq_true, decide_eq_true_eq, List.all_eq_true, List.mem_range]
theorem nodup_take {l : List Du} : l.Nodup ↔ ∀ j, j < l.length → duAt l j ∉ l.take j := by
  unfold List.Nodup
  rw [List.pairwise_iff_getElem]
  constructor
  · intro h j hj hm
    obtain ⟨i, hi, e⟩ := List.mem_iff_getElem.1 hm
    rw [List.length_take] at hi
    rw [List.getElem_take, duAt_lt hj] at e
    exact h i j (by omega) hj (by omega) e
  · intro h i j hi hj hij e
    refine h j hj ?_
    rw [List.mem_iff_getElem]
    exact ⟨i, by rw [List.length_take]; omega, by rw [List.getElem_take, duAt_lt hj]; exact e⟩
/-- In other words. -/
theorem hok_is {l : List Du} : hok l = true ↔ l.length ≤ 60 ∧ (∀ x ∈ l, x.ok = true) ∧ l.Nodup ∧ HpO l := by
  rw [hok_iff, nodup_take]
  unfold duGood
  simp only [Bool.and_eq_true, Bool.not_eq_true', duHas_false, Bool.and_eq_false_iff, decide_eq_false_iff_not]
  constructor
  · rintro ⟨h1, h2⟩
    refine ⟨h1, fun x hx => ?_, fun j hj => (h2 j hj).2.1, fun j j0 hj => ?_⟩
    · obtain ⟨i, hi, rfl⟩ := List.mem_iff_getElem.1 hx
      have := (h2 i hi).1
      rwa [duAt_lt hi] at this
    · rcases (h2 j hj).2.2 with q | q
      · omega
      · exact q
  · rintro ⟨h1, h2, h3, h4⟩
    refine ⟨h1, fun j hj => ⟨by rw [duAt_lt hj]; exact h2 _ (List.getElem_mem hj), h3 j hj, ?_⟩⟩
    by_cases j0 : 0 < j
    · exact .inr (h4 j j0 hj)
    · exact .inl j0
def mayPut (l : List Du) (d : Du) : Bool := d.ok && (!duHas l d && !decide (l.length = 60))
def putH (l : List Du) (d : Du) : List Du := if hok l = true then (if mayPut l d = true then hput l d else l) else []
def putB (l : List Du) (d : Du) : Bool := hok l && mayPut l d
def mayTake (l : List Du) : Bool := hok l && !decide (l.length = 0)
def takeH (l : List Du) : List Du := if mayTake l = true then htake l else []
def takeD (l : List Du) : Du := if mayTake l = true then duAt l 0 else ⟨0, 0⟩
theorem mayTake_iff {l : List Du} : mayTake l = true ↔ hok l = true ∧ 0 < l.length := by
  unfold mayTake
  simp only [Bool.and_eq_true, Bool.not_eq_true', decide_eq_false_iff_not]
  constructor
  · rintro ⟨h, g⟩; exact ⟨h, by omega⟩
  · rintro ⟨h, g⟩; exact ⟨h, by omega⟩
theorem hput_hok {l : List Du} {d : Du} (h : hok l = true) (hm : mayPut l d = true) : hok (hput l d) = true := by
  obtain ⟨h1, h2, h3, h4⟩ := hok_is.1 h
  unfold mayPut at hm
  simp only [Bool.and_eq_true, Bool.not_eq_true', duHas_false, decide_eq_false_iff_not] at hm
  have hp := hput_perm l d
  refine hok_is.2 ⟨by rw [hput_len]; omega, fun x hx => ?_, hp.nodup_iff.2 (List.nodup_cons.2 ⟨hm.2.1, h3⟩), hput_ho h4⟩
  rcases List.mem_cons.1 (hp.subset hx) with rfl | hx
  · exact hm.1
  · exact h2 x hx
theorem htake_hok {l : List Du} (h : mayTake l = true) : hok (htake l) = true ∧ (duAt l 0 :: htake l).Perm l ∧ (∀ x ∈ l, ¬ x.lt (duAt l 0)) ∧ (htake l).length + 1 = l.length ∧ duAt l 0 ∈ l := by
  obtain ⟨hk, h0⟩ := mayTake_iff.1 h
  obtain ⟨h1, h2, h3, h4⟩ := hok_is.1 hk
  have hp := htake_perm h0
  refine ⟨hok_is.2 ⟨by rw [htake_len]; omega, fun x hx => h2 x (hp.subset (List.mem_cons_of_mem _ hx)), (List.nodup_cons.1 (hp.nodup_iff.2 h3)).2, htake_ho h4⟩, hp, fun x hx => h4.min hx, by rw [htake_len]; omega, by rw [duAt_lt h0]; exact List.getElem_mem h0⟩
/-- What comes next is not ahead of what came. -/
theorem take_next {l : List Du} (h : mayTake l = true) {x : Du} (hx : x ∈ htake l) : (duAt l 0).lt x := by
  obtain ⟨_, hp, hm, _⟩ := htake_hok h
  have h3 := (hok_is.1 (mayTake_iff.1 h).1).2.2.1
  have hne : duAt l 0 ≠ x := fun e => (List.nodup_cons.1 (hp.nodup_iff.2 h3)).1 (by rw [e]; exact hx)
  apply Classical.byContradiction
  intro q
  exact hne (Du.eq_of q (hm x (hp.subset (List.mem_cons_of_mem _ hx))))
end Go.Proofs.YtkocbfikcjgigaaGreat
