import Derived.RowKit3
import Derived.Below
import Derived.Test.YtaojbmhodpffiaaGreatRows
import Derived.WalkKit
import Derived.WalkSpells
import Derived.WalkLawsBesides
/-
  Frames as plain data: which are right, and the bytes that are shown ahead of a body. By the verifier.
-/
namespace Go.Proofs.YtaojbmhodpffiaaGreat
open Go.RowKit

/-- A frame: its numbers, its tags, its body. -/
structure Fr where
  to : Int
  frm : Int
  tags : List Int
  src : Int
  dst : Int
  proto : Int
  sport : Int
  dport : Int
  mark : Int
  sum : Int
  body : ByteArray

/-- From lo to hi. -/
def inB (lo hi n : Int) : Bool := decide (lo ≤ n ∧ n ≤ hi)
theorem inB_true {lo hi n : Int} : inB lo hi n = true ↔ lo ≤ n ∧ n ≤ hi := by simp [inB]
theorem inB_false {lo hi n : Int} : inB lo hi n = false ↔ n < lo ∨ hi < n := by simp [inB]; omega

/-- A right frame. -/
def Fr.Ok (f : Fr) : Prop :=
  (0 ≤ f.to ∧ f.to ≤ 65535) ∧ (0 ≤ f.frm ∧ f.frm ≤ 65535) ∧ f.tags.length ≤ 2 ∧ (0 ≤ f.src ∧ f.src ≤ 4294967295) ∧ (0 ≤ f.dst ∧ f.dst ≤ 4294967295) ∧
  (0 ≤ f.proto ∧ f.proto ≤ 255) ∧ (0 ≤ f.sport ∧ f.sport ≤ 65535) ∧ (0 ≤ f.dport ∧ f.dport ≤ 65535) ∧ (0 ≤ f.mark ∧ f.mark ≤ 3) ∧ (0 ≤ f.sum ∧ f.sum ≤ 65535) ∧
  f.body.size ≤ 1500 ∧ f.tags.all (inB 0 4095) = true
def Fr.okDec (f : Fr) : Decidable f.Ok := by unfold Fr.Ok; exact inferInstance
/-- As a flag. -/
def Fr.ok (f : Fr) : Bool := @decide f.Ok f.okDec
/-- n in k bytes, the highest first. -/
def be : Nat → Int → List Int
  | 0, _ => []
  | k + 1, n => (n / 256 ^ k % 256) :: be k n
/-- The tags as they are shown. -/
def tagBytes : List Int → List Int
  | [] => []
  | z :: r => 1 :: (be 2 z ++ tagBytes r)
/-- Up to the tags' end. -/
def Fr.outer (f : Fr) : List Int := be 2 f.to ++ be 2 f.frm ++ tagBytes f.tags
/-- From the source on, ahead of the body. -/
def Fr.mid (f : Fr) : List Int :=
  be 4 f.src ++ be 4 f.dst ++ be 1 f.proto ++ be 2 f.sport ++ be 2 f.dport ++ be 1 f.mark ++ be 2 f.sum ++ be 2 f.body.size
/-- All that is shown ahead of the body. -/
def Fr.head (f : Fr) : List Int := f.outer ++ [2] ++ f.mid
/-- Bytes as a text. -/
def strB (xs : List Int) : ByteArray := ⟨(xs.map fun n => UInt8.ofNat n.toNat).toArray⟩
/-- What a frame is shown as. -/
def Fr.show (f : Fr) : ByteArray := if f.ok then strB f.head ++ f.body else ByteArray.empty
/-- Cells that hold these numbers. -/
def IntsAt (w : World) (a : Option Addr) (zs : List Int) : Prop :=
  ∀ k, k < zs.length → ∃ b off, a = some ⟨b, off, none⟩ ∧ b < w.heap.size ∧ w.cell? ⟨b, off + k, none⟩ = some (.int .i64 (zs[k]?.getD 0))
theorem IntsAt.below {w w' : World} {a : Option Addr} {zs : List Int} (h : IntsAt w a zs) (g : Below w.heap.size w w') : IntsAt w' a zs := by
  intro k hk
  obtain ⟨b, off, e, hb, hc⟩ := h k hk
  exact ⟨b, off, e, Nat.lt_of_lt_of_le hb g.size, by rw [g.cell (p := ⟨b, off + k, none⟩) hb]; exact hc⟩
theorem IntsAt.alloc {w : World} {a : Option Addr} {zs : List Int} (h : IntsAt w a zs) (o : Obj) : IntsAt (w.alloc o) a zs :=
  h.below ((Below.refl _ _).alloc (Nat.le_refl _) _)
theorem IntsAt.nil (w : World) (a : Option Addr) : IntsAt w a [] := by intro k hk; simp at hk
/-- A frame as a value. -/
def Fr.val (f : Fr) (a : Option Addr) (cap : Nat) : Value :=
  .agg #[.int .i64 f.to, .int .i64 f.frm, .slice a f.tags.length cap, .int .i64 f.src, .int .i64 f.dst, .int .i64 f.proto, .int .i64 f.sport, .int .i64 f.dport, .int .i64 f.mark, .int .i64 f.sum, .string f.body]
theorem ints_new (w : World) (t : TypeId) (zs : List Int) (cs : Array Value) (B : Nat) (hB : B = w.heap.size) (h : cs = (zs.map (Value.int .i64)).toArray) : IntsAt (w.alloc (.cells cs t)) (some ⟨B, 0, none⟩) zs := by
  subst hB; subst h
  intro k hk
  refine ⟨_, _, rfl, by simp, ?_⟩
  rw [World.cell?_alloc_new w _ _ (0 + k)]
  simp [List.getElem?_eq_getElem hk]
theorem bel_alloc {B : Nat} {w w' : World} (h : Below B w w') (hB : B ≤ w.heap.size) (o : Obj) : Below B w (w'.alloc o) := h.alloc (Nat.le_trans hB h.size) o
end Go.Proofs.YtaojbmhodpffiaaGreat

/-
  Numbers within bounds, the model's way. By the verifier.
-/
namespace Go.Proofs.YtaojbmhodpffiaaGreat
open Go.RowKit

theorem ret_bool {a b : Bool} (h : a = b) : Ending.returned (.bool a) = .returned (.bool b) := by rw [h]
theorem ret_num {a b : Int} (h : a = b) : Ending.returned (.int .i64 a) = .returned (.int .i64 b) := by rw [h]
theorem specIn (n lo hi : Int) (w : World) :
    Calls Tryz.prog 36 #[.int .i64 n, .int .i64 lo, .int .i64 hi] w fun e w' => e = .returned (.bool (inB lo hi n)) ∧ w' = w := by
  by_cases h0 : lo ≤ n
  · by_cases h1 : n ≤ hi
    · have h : inB lo hi n = true := by rw [inB_true]; omega
      rw [h]
      go_enter Tryz.func36, Tryz.ntmps36
      go_wp2
      go_ret
      exact ⟨rfl, rfl⟩
    · have h : inB lo hi n = false := by rw [inB_false]; omega
      rw [h]
      go_enter Tryz.func36, Tryz.ntmps36
      go_wp2
      go_ret
      exact ⟨rfl, rfl⟩
  · have h : inB lo hi n = false := by rw [inB_false]; omega
    rw [h]
    go_enter Tryz.func36, Tryz.ntmps36
    go_wp2
    go_ret
    exact ⟨rfl, rfl⟩
end Go.Proofs.YtaojbmhodpffiaaGreat
