/-
  Routes as plain data: which are right, in which order they lie, which fit. By the verifier.
-/
import Derived.Test.YtaojbmhodpffiaaGreatK2NumIn
namespace Go.Proofs.YtaojbmhodpffiaaGreat
open Go.RowKit

/-- A route. -/
structure Rt where
  net : Int
  bits : Int
  hop : Int
/-- As a value. -/
def Rt.val (r : Rt) : Value := .agg #[.int .i64 r.net, .int .i64 r.bits, .int .i64 r.hop]
/-- Its cells. -/
def Rt.cells (r : Rt) : List Value := [.int .i64 r.net, .int .i64 r.bits, .int .i64 r.hop]
/-- The one at a place. -/
def rtAt (l : List Rt) (k : Nat) : Rt := l[k]?.getD ⟨0, 0, 0⟩
theorem rtAt_lt {l : List Rt} {k : Nat} (h : k < l.length) : rtAt l k = l[k] := by simp [rtAt, List.getElem?_eq_getElem h]

/-- Cells that hold these routes. -/
def RtsAt (w : World) (a : Option Addr) (l : List Rt) : Prop :=
  ∀ k, k < l.length → ∃ b off, a = some ⟨b, off, none⟩ ∧ b < w.heap.size ∧ w.cell? ⟨b, off + k * 3, none⟩ = some (.int .i64 (rtAt l k).net) ∧ w.cell? ⟨b, off + k * 3 + 1, none⟩ = some (.int .i64 (rtAt l k).bits) ∧ w.cell? ⟨b, off + k * 3 + 2, none⟩ = some (.int .i64 (rtAt l k).hop)
theorem RtsAt.below {w w' : World} {a : Option Addr} {l : List Rt} (h : RtsAt w a l) (g : Below w.heap.size w w') : RtsAt w' a l := by
  intro k hk
  obtain ⟨b, off, e, hb, c0, c1, c2⟩ := h k hk
  exact ⟨b, off, e, Nat.lt_of_lt_of_le hb g.size, by rw [g.cell (p := ⟨b, off + k * 3, none⟩) hb]; exact c0, by rw [g.cell (p := ⟨b, off + k * 3 + 1, none⟩) hb]; exact c1, by rw [g.cell (p := ⟨b, off + k * 3 + 2, none⟩) hb]; exact c2⟩
theorem RtsAt.alloc {w : World} {a : Option Addr} {l : List Rt} (h : RtsAt w a l) (o : Obj) : RtsAt (w.alloc o) a l :=
  h.below ((Below.refl _ _).alloc (Nat.le_refl _) _)
theorem RtsAt.drew {w : World} {a : Option Addr} {l : List Rt} (h : RtsAt w a l) : RtsAt w.drew a l := h.below (Below.refl _ _).drew
theorem RtsAt.nil (w : World) (a : Option Addr) : RtsAt w a [] := by intro k hk; simp at hk
theorem RtsAt.none {w : World} {l : List Rt} (h : RtsAt w none l) : l = [] := by
  cases l with
  | nil => rfl
  | cons z zs => obtain ⟨b, off, e, _⟩ := h 0 (by simp); cases e

theorem cells_at {w : World} {b off k : Nat} {l : List Rt} (h : RtsAt w (some ⟨b, off, none⟩) l) (hk : k < l.length) : w.cell? ⟨b, off + k * 3, none⟩ = some (.int .i64 (rtAt l k).net) ∧ w.cell? ⟨b, off + k * 3 + 1, none⟩ = some (.int .i64 (rtAt l k).bits) ∧ w.cell? ⟨b, off + k * 3 + 2, none⟩ = some (.int .i64 (rtAt l k).hop) := by
  obtain ⟨b', off', e, _, c⟩ := h k hk
  cases e
  exact c
/-- A right net. -/
def netB (net bits : Int) : Bool := inB 0 32 bits && (inB 0 4294967295 net && decide (net % 2 ^ (32 - bits).toNat = 0))
/-- A right route. -/
def Rt.ok (r : Rt) : Bool := netB r.net r.bits && inB 0 99 r.hop
/-- The order. -/
def Rt.lt (a b : Rt) : Bool := decide (a.net < b.net ∨ a.net = b.net ∧ a.bits < b.bits)
/-- Right, and behind the one ahead. -/
def good (l : List Rt) (i : Nat) : Bool := (rtAt l i).ok && (decide (i = 0) || (rtAt l (i - 1)).lt (rtAt l i))
/-- The first k are. -/
def goodTo (l : List Rt) (k : Nat) : Bool := (List.range k).all (good l)
theorem goodTo_succ (l : List Rt) (k : Nat) : goodTo l (k + 1) = (goodTo l k && good l k) := by simp [goodTo, List.range_succ]
theorem goodTo_hit {l : List Rt} {k n : Nat} (h : k < n) (g : good l k = false) : goodTo l n = false := by
  unfold goodTo
  rw [List.all_eq_false]
  exact ⟨k, List.mem_range.2 h, by simp [g]⟩
/-- Right routes. -/
def rtsOk (l : List Rt) : Bool := decide (l.length ≤ 64) && goodTo l l.length
/-- The first bits of an address are those of the net. -/
def fitB (net bits addr : Int) : Bool := decide (addr / 2 ^ (32 - bits).toNat * 2 ^ (32 - bits).toNat = net)
/-- Fits. -/
def Rt.fits (r : Rt) (addr : Int) : Bool := r.ok && (inB 0 4294967295 addr && fitB r.net r.bits addr)

theorem pow_le32 {s : Nat} (h : s ≤ 32) : (2 : Int) ^ s ≤ 4294967296 := by
  have : (2 : Nat) ^ s ≤ 2 ^ 32 := Nat.pow_le_pow_right (by decide) h
  have e : ((2 ^ s : Nat) : Int) = (2 : Int) ^ s := by simp
  omega
theorem pow_pos' (s : Nat) : (0 : Int) < (2 : Int) ^ s := by
  have : 0 < (2 : Nat) ^ s := Nat.two_pow_pos s
  have e : ((2 ^ s : Nat) : Int) = (2 : Int) ^ s := by simp
  omega
/-- Of a right net's bits: 32 less some. -/
theorem bits_of {bits : Int} (h : inB 0 32 bits = true) : ∃ s : Nat, s ≤ 32 ∧ bits = 32 - (s : Int) := by
  rw [inB_true] at h
  exact ⟨(32 - bits).toNat, by omega, by omega⟩
theorem pow_of {s : Nat} (h : s ≤ 32) : (2 : Int) ^ (32 - (32 - (s : Int))).toNat = 2 ^ s := by
  rw [show (32 - (32 - (s : Int))).toNat = s by omega]
theorem and_mask {n : Int} {s : Nat} (hs : s ≤ 32) (n0 : 0 ≤ n) (n1 : n ≤ 4294967295) : bits .and .i64 n (2 ^ s - 1) = n % 2 ^ s := by
  obtain ⟨x, rfl⟩ := Int.eq_ofNat_of_zero_le n0
  have hx : x < 2 ^ 32 := by omega
  have e : ((2 ^ s : Nat) : Int) = (2 : Int) ^ s := by simp
  have p1 := pow_le32 hs
  have p0 := pow_pos' s
  show IntKind.i64.wrap ((BitVec.ofInt 64 (x : Int) &&& BitVec.ofInt 64 ((2 : Int) ^ s - 1)).toNat : Nat) = _
  rw [BitVec.toNat_and, BitVec.toNat_ofInt, BitVec.toNat_ofInt, IntKind.wrap_i64]
  rw [show (((x : Int) % ((2 ^ 64 : Nat) : Int)).toNat) = x by omega, show ((((2 : Int) ^ s - 1) % ((2 ^ 64 : Nat) : Int)).toNat) = 2 ^ s - 1 by omega]
  rw [Nat.and_two_pow_sub_one_eq_mod, ← e, ← Int.natCast_emod]
  have : x % 2 ^ s ≤ x := Nat.mod_le _ _
  generalize x % 2 ^ s = m at this
  omega
end Go.Proofs.YtaojbmhodpffiaaGreat
