import Derived.Test.YtlffnpjnmimnlaaFrPlain
import Derived.Test.YtlffnpjnmimnlaaNums
import Derived.Test.YtlffnpjnmimnlaaDrawCur
import Derived.Test.YtlffnpjnmimnlaaRegInv
import Derived.Laws.ResultCell
import Derived.Laws.CopyOwn
/-
  Routes as plain data: which are right, in which order they lie, which fit. By the verifier.
-/
namespace Go.Proofs.Ytlffnpjnmimnlaa
open Go.RowKit

/-- A route. -/
structure Rt where
  net : Int
  bits : Int
  hop : Int
/-- As a value. -/
def Rt.val (r : Rt) : Value := .agg #[.int .i64 r.net, .int .i64 r.bits, .int .i64 r.hop]
/-- Its cells. -/
def Rt.cells (r : Rt) : List Value := [.int .i64 r.net, .int .i64 r.bits, .int .i64 r.hop]
/-- The one at a place. -/
def rtAt (l : List Rt) (k : Nat) : Rt := l[k]?.getD ⟨0, 0, 0⟩
theorem rtAt_lt {l : List Rt} {k : Nat} (h : k < l.length) : rtAt l k = l[k] := by simp [rtAt, List.getElem?_eq_getElem h]

/-- Cells that hold these routes. -/
def RtsAt (w : World) (a : Option Addr) (l : List Rt) : Prop :=
  ∀ k, k < l.length → ∃ b off, a = some ⟨b, off, none⟩ ∧ b < w.heap.size ∧ w.cell? ⟨b, off + k * 3, none⟩ = some (.int .i64 (rtAt l k).net) ∧ w.cell? ⟨b, off + k * 3 + 1, none⟩ = some (.int .i64 (rtAt l k).bits) ∧ w.cell? ⟨b, off + k * 3 + 2, none⟩ = some (.int .i64 (rtAt l k).hop)
theorem RtsAt.below {w w' : World} {a : Option Addr} {l : List Rt} (h : RtsAt w a l) (g : Below w.heap.size w w') : RtsAt w' a l := by
  intro k hk
  obtain ⟨b, off, e, hb, c0, c1, c2⟩ := h k hk
  exact ⟨b, off, e, Nat.lt_of_lt_of_le hb g.size, by rw [g.cell (p := ⟨b, off + k * 3, none⟩) hb]; exact c0, by rw [g.cell (p := ⟨b, off + k * 3 + 1, none⟩) hb]; exact c1, by rw [g.cell (p := ⟨b, off + k * 3 + 2, none⟩) hb]; exact c2⟩
theorem RtsAt.alloc {w : World} {a : Option Addr} {l : List Rt} (h : RtsAt w a l) (o : Obj) : RtsAt (w.alloc o) a l :=
  h.below ((Below.refl _ _).alloc (Nat.le_refl _) _)
theorem RtsAt.drew {w : World} {a : Option Addr} {l : List Rt} (h : RtsAt w a l) : RtsAt w.drew a l := h.below (Below.refl _ _).drew
theorem RtsAt.nil (w : World) (a : Option Addr) : RtsAt w a [] := by intro k hk; simp at hk
theorem RtsAt.none {w : World} {l : List Rt} (h : RtsAt w none l) : l = [] := by
  cases l with
  | nil => rfl
  | cons z zs => obtain ⟨b, off, e, _⟩ := h 0 (by simp); cases e

theorem cells_at {w : World} {b off k : Nat} {l : List Rt} (h : RtsAt w (some ⟨b, off, none⟩) l) (hk : k < l.length) : w.cell? ⟨b, off + k * 3, none⟩ = some (.int .i64 (rtAt l k).net) ∧ w.cell? ⟨b, off + k * 3 + 1, none⟩ = some (.int .i64 (rtAt l k).bits) ∧ w.cell? ⟨b, off + k * 3 + 2, none⟩ = some (.int .i64 (rtAt l k).hop) := by
  obtain ⟨b', off', e, _, c⟩ := h k hk
  cases e
  exact c
/-- A right net. -/
def netB (net bits : Int) : Bool := inB 0 32 bits && (inB 0 4294967295 net && decide (net % 2 ^ (32 - bits).toNat = 0))
/-- A right route. -/
def Rt.ok (r : Rt) : Bool := netB r.net r.bits && inB 0 99 r.hop
/-- The order. -/
def Rt.lt (a b : Rt) : Bool := decide (a.net < b.net ∨ a.net = b.net ∧ a.bits < b.bits)
/-- Right, and behind the one ahead. -/
def good (l : List Rt) (i : Nat) : Bool := (rtAt l i).ok && (decide (i = 0) || (rtAt l (i - 1)).lt (rtAt l i))
/-- The first k are. -/
def goodTo (l : List Rt) (k : Nat) : Bool := (List.range k).all (good l)
theorem goodTo_succ (l : List Rt) (k : Nat) : goodTo l (k + 1) = (goodTo l k && good l k) := by simp [goodTo, List.range_succ]
theorem goodTo_hit {l : List Rt} {k n : Nat} (h : k < n) (g : good l k = false) : goodTo l n = false := by
  unfold goodTo
  rw [List.all_eq_false]
  exact ⟨k, List.mem_range.2 h, by simp [g]⟩
/-- Right routes. -/
def rtsOk (l : List Rt) : Bool := decide (l.length ≤ 64) && goodTo l l.length
/-- The first bits of an address are those of the net. -/
def fitB (net bits addr : Int) : Bool := decide (addr / 2 ^ (32 - bits).toNat * 2 ^ (32 - bits).toNat = net)
/-- Fits. -/
def Rt.fits (r : Rt) (addr : Int) : Bool := r.ok && (inB 0 4294967295 addr && fitB r.net r.bits addr)

theorem pow_le32 {s : Nat} (h : s ≤ 32) : (2 : Int) ^ s ≤ 4294967296 := by
  have : (2 : Nat) ^ s ≤ 2 ^ 32 := Nat.pow_le_pow_right (by decide) h
  have e : ((2 ^ s : Nat) : Int) = (2 : Int) ^ s := by simp
  omega
theorem pow_pos' (s : Nat) : (0 : Int) < (2 : Int) ^ s := by
  have : 0 < (2 : Nat) ^ s := Nat.two_pow_pos s
  have e : ((2 ^ s : Nat) : Int) = (2 : Int) ^ s := by simp
  omega
/-- Of a right net's bits: 32 less some. -/
theorem bits_of {bits : Int} (h : inB 0 32 bits = true) : ∃ s : Nat, s ≤ 32 ∧ bits = 32 - (s : Int) := by
  rw [inB_true] at h
  exact ⟨(32 - bits).toNat, by omega, by omega⟩
theorem pow_of {s : Nat} (h : s ≤ 32) : (2 : Int) ^ (32 - (32 - (s : Int))).toNat = 2 ^ s := by
  rw [show (32 - (32 - (s : Int))).toNat = s by omega]
/-- The exclusive or is nought behind a shift just where both are one behind it. -/
theorem xor_shift {n a : Int} {s : Nat} (n0 : 0 ≤ n) (n1 : n ≤ 4294967295) (a0 : 0 ≤ a) (a1 : a ≤ 4294967295) : (bits .xor .i64 n a / 2 ^ s = 0) ↔ n / 2 ^ s = a / 2 ^ s := by
  obtain ⟨x, rfl⟩ := Int.eq_ofNat_of_zero_le n0
  obtain ⟨y, rfl⟩ := Int.eq_ofNat_of_zero_le a0
  have hx : x < 2 ^ 32 := by omega
  have hy : y < 2 ^ 32 := by omega
  have hz : x ^^^ y < 2 ^ 32 := Nat.xor_lt_two_pow hx hy
  have key : bits .xor .i64 (x : Int) (y : Int) = ((x ^^^ y : Nat) : Int) := by
    show IntKind.i64.wrap ((BitVec.ofInt 64 (x : Int) ^^^ BitVec.ofInt 64 (y : Int)).toNat : Nat) = _
    rw [BitVec.toNat_xor, BitVec.toNat_ofInt, BitVec.toNat_ofInt, IntKind.wrap_i64]
    rw [show (((x : Int) % ((2 ^ 64 : Nat) : Int)).toNat) = x by omega, show (((y : Int) % ((2 ^ 64 : Nat) : Int)).toNat) = y by omega]
    omega
  rw [key]
  have e : ((2 ^ s : Nat) : Int) = (2 : Int) ^ s := by simp
  rw [← e, ← Int.natCast_ediv, ← Int.natCast_ediv, ← Int.natCast_ediv, ← Nat.shiftRight_eq_div_pow, ← Nat.shiftRight_eq_div_pow, ← Nat.shiftRight_eq_div_pow, Nat.shiftRight_xor_distrib]
  rw [Int.natCast_inj, show (0 : Int) = ((0 : Nat) : Int) from rfl, Int.natCast_inj]
  generalize x >>> s = p
  generalize y >>> s = q
  constructor
  · intro h
    have h2 : p ^^^ q ^^^ q = q := by rw [h, Nat.zero_xor]
    rwa [Nat.xor_assoc, Nat.xor_self, Nat.xor_zero] at h2
  · intro h; rw [h, Nat.xor_self]
theorem and_mask {n : Int} {s : Nat} (hs : s ≤ 32) (n0 : 0 ≤ n) (n1 : n ≤ 4294967295) : bits .and .i64 n (2 ^ s - 1) = n % 2 ^ s := by
  obtain ⟨x, rfl⟩ := Int.eq_ofNat_of_zero_le n0
  have hx : x < 2 ^ 32 := by omega
  have e : ((2 ^ s : Nat) : Int) = (2 : Int) ^ s := by simp
  have p1 := pow_le32 hs
  have p0 := pow_pos' s
  show IntKind.i64.wrap ((BitVec.ofInt 64 (x : Int) &&& BitVec.ofInt 64 ((2 : Int) ^ s - 1)).toNat : Nat) = _
  rw [BitVec.toNat_and, BitVec.toNat_ofInt, BitVec.toNat_ofInt, IntKind.wrap_i64]
  rw [show (((x : Int) % ((2 ^ 64 : Nat) : Int)).toNat) = x by omega, show ((((2 : Int) ^ s - 1) % ((2 ^ 64 : Nat) : Int)).toNat) = 2 ^ s - 1 by omega]
  rw [Nat.and_two_pow_sub_one_eq_mod, ← e, ← Int.natCast_emod]
  have : x % 2 ^ s ≤ x := Nat.mod_le _ _
  generalize x % 2 ^ s = m at this
  omega
/-- The two ways to say that a right net's bits are those of an address. -/
theorem fit_two {n a : Int} {s : Nat} (hn : n % 2 ^ s = 0) : n / 2 ^ s = a / 2 ^ s ↔ a / 2 ^ s * 2 ^ s = n := by
  have p0 := pow_pos' s
  have h1 := Int.mul_ediv_add_emod n (2 ^ s)
  have h2 := Int.mul_ediv_add_emod a (2 ^ s)
  rw [hn] at h1
  constructor
  · intro h; rw [← h, Int.mul_comm]; omega
  · intro h; rw [← h, Int.mul_ediv_cancel _ (by omega)]
end Go.Proofs.Ytlffnpjnmimnlaa

/-
  The model's way to tell a right net. By the verifier.
-/
namespace Go.Proofs.Ytlffnpjnmimnlaa
open Go.RowKit

theorem wrap_small {m : Int} (h0 : 0 ≤ m) (h1 : m ≤ 9223372036854775807) : wrap64 m = m := by unfold wrap64; omega
theorem ret_bool {a b : Bool} (h : a = b) : Ending.returned (.bool a) = .returned (.bool b) := by rw [h]
theorem specNet (net bits : Int) (w : World) :
    Calls Try.prog 68 #[.int .i64 net, .int .i64 bits] w fun e w' => e = .returned (.bool (netB net bits)) ∧ w' = w := by
  have Hn : Hid (netB net bits = _) := rfl
  cases hb : inB 0 32 bits
  · have hb' : netB net bits = false := by rw [netB, hb]; rfl
    rw [hb']
    clear Hn hb'
    have C := specIn bits 0 32 w
    rw [hb] at C
    clear hb
    go_enter Try.func68, Try.ntmps68
    go_wp2_with (go_at_call 49; refine C.mono ?_; rintro e w' ⟨rfl, rfl⟩)
    go_ret
    exact ⟨rfl, rfl⟩
  cases hn : inB 0 4294967295 net
  · have hb' : netB net bits = false := by rw [netB, hb, hn]; rfl
    rw [hb']
    clear Hn hb'
    have C := specIn bits 0 32 w
    have D := specAddr net w
    rw [hb] at C
    rw [hn] at D
    clear hb hn
    go_enter Try.func68, Try.ntmps68
    go_wp2_with (first | (go_at_call 49; refine C.mono ?_; rintro e w' ⟨rfl, rfl⟩) | (go_at_call 51; refine D.mono ?_; rintro e w' ⟨rfl, rfl⟩))
    go_ret
    exact ⟨rfl, rfl⟩
  have hnb : netB net bits = decide (net % 2 ^ (32 - bits).toNat = 0) := by rw [netB, hb, hn]; rfl
  have C := specIn bits 0 32 w
  have D := specAddr net w
  rw [hb] at C
  rw [hn] at D
  clear Hn
  obtain ⟨s, hs, rfl⟩ := bits_of hb
  rw [pow_of hs] at hnb
  rw [hnb]
  have hn' := inB_true.1 hn
  clear hb hn hnb
  have hw : wrap64 (2 ^ (32 - (32 - s))) = 2 ^ s := by
    rw [show 32 - (32 - s) = s by omega]
    have := pow_le32 hs
    have := pow_pos' s
    unfold wrap64; omega
  have hm := pow_pos' s
  have hm1 := pow_le32 hs
  generalize (2 : Int) ^ s = m at hw hm hm1 ⊢
  have hm0 : ¬ m = 0 := by omega
  have ht : net.tmod m = net % m := Int.tmod_eq_emod_of_nonneg hn'.1
  go_enter Try.func68, Try.ntmps68
  go_wp2_with (first | (go_at_call 49; refine C.mono ?_; rintro e w' ⟨rfl, rfl⟩) | (go_at_call 51; refine D.mono ?_; rintro e w' ⟨rfl, rfl⟩))
  go_ret
  exact ⟨rfl, rfl⟩
end Go.Proofs.Ytlffnpjnmimnlaa

/-
  Small joins for routes. By the verifier.
-/
namespace Go.Proofs.Ytlffnpjnmimnlaa
open Go.RowKit

theorem cell_of_below {w w' : World} {n : Nat} (h : Below n w w') {p : Addr} (hp : p.block < n) {v : Value} (c : w.cell? p = some v) : w'.cell? p = some v := by
  rw [h.cell hp]; exact c
theorem ok_parts {r : Rt} (h : r.ok = true) : inB 0 32 r.bits = true ∧ (0 ≤ r.net ∧ r.net ≤ 4294967295) ∧ r.net % 2 ^ (32 - r.bits).toNat = 0 ∧ (0 ≤ r.hop ∧ r.hop ≤ 99) := by
  unfold Rt.ok netB at h
  simp only [Bool.and_eq_true, decide_eq_true_eq, inB_true] at h
  obtain ⟨⟨h1, h2, h3⟩, h4⟩ := h
  exact ⟨by rw [inB_true]; exact h1, h2, h3, h4⟩
end Go.Proofs.Ytlffnpjnmimnlaa

/-
  The model's drawing of addresses and of routes. By the verifier.
-/
namespace Go.Proofs.Ytlffnpjnmimnlaa
open Go.RowKit

/-- A zero route's cells. -/
def zeroRt : Array Value := #[.int .i64 0, .int .i64 0, .int .i64 0]
/-- The call's own memory: the route that is drawn, the answer's variable, the cursor. -/
structure DrR (W : World) (bc : Nat) (ac : Option Addr) (len cap : Nat) (w : World) (B : Nat) (r : Rt) (wr : World) : Prop where
  rt : Boxed wr B #[.int .i64 r.net, .int .i64 r.bits, .int .i64 r.hop] 78
  res : Boxed wr w.heap.size zeroRt 78
  cur : Cur W bc ac len cap wr
  kp : Keep bc w wr
  lt : w.heap.size < B
  bl : bc < w.heap.size
theorem DrR.draw {W : World} {bc : Nat} {ac : Option Addr} {len cap : Nat} {w : World} {B : Nat} {r : Rt} {wr wd : World} (h : DrR W bc ac len cap w B r wr) (c : Cur W bc ac len cap wd) (k : Keep bc wr wd) : DrR W bc ac len cap w B r wd := by
  have := h.lt
  have := h.bl
  exact ⟨h.rt.keep (by omega) k, h.res.keep (by omega) k, c, h.kp.trans k, h.lt, h.bl⟩
theorem DrR.more {W : World} {bc : Nat} {ac : Option Addr} {len cap : Nat} {w : World} {B : Nat} {r : Rt} {wr : World} (h : DrR W bc ac len cap w B r wr) (o : Obj) : DrR W bc ac len cap w B r (wr.alloc o) :=
  ⟨h.rt.more _, h.res.more _, h.cur.alloc _, h.kp.alloc _, h.lt, h.bl⟩
theorem DrR.drew {W : World} {bc : Nat} {ac : Option Addr} {len cap : Nat} {w : World} {B : Nat} {r : Rt} {wr : World} (h : DrR W bc ac len cap w B r wr) : DrR W bc ac len cap w B r wr.drew :=
  ⟨h.rt, h.res, h.cur.drew, h.kp.drew, h.lt, h.bl⟩
theorem DrR.put {W : World} {bc : Nat} {ac : Option Addr} {len cap : Nat} {w : World} {B : Nat} {r r' : Rt} {wr : World} (h : DrR W bc ac len cap w B r wr) (j : Nat) (v : Value)
    (hr : (#[.int .i64 r.net, .int .i64 r.bits, .int .i64 r.hop] : Array Value).setIfInBounds j v = #[.int .i64 r'.net, .int .i64 r'.bits, .int .i64 r'.hop]) : DrR W bc ac len cap w B r' (wr.setCell ⟨B, j, none⟩ v) := by
  have h1 := h.lt
  have h2 := h.bl
  have h3 := h.cur.bel.size
  have h4 := h.cur.lo
  have o : ∀ k, k ≠ B → (wr.setCell ⟨B, j, none⟩ v).heap[k]? = wr.heap[k]? := fun k hk => Below.heap_setCell _ _ _ _ hk
  refine ⟨by rw [← hr]; exact h.rt.put j v, h.res.far (by omega) j v, h.cur.other (by omega) o ((Below.refl _ _).setCell (p := ⟨B, j, none⟩) (by show W.heap.size ≤ B; omega) _), ⟨by have := h.kp.size; simp only [World.setCell, Array.size_modify]; exact this, fun k g1 g2 => (o k (by omega)).trans (h.kp.block k g1 g2)⟩, h.lt, h.bl⟩
theorem DrR.done {W : World} {bc : Nat} {ac : Option Addr} {len cap : Nat} {w : World} {B : Nat} {r : Rt} {wr : World} (h : DrR W bc ac len cap w B r wr) {t : Act} (h2 : t.tmps.getD 2 undef = .pointer (some ⟨w.heap.size, 0, none⟩)) (hd : t.defers = []) :
    bodyPost Try.prog Try.f65 (fun e w' => (∃ r : Rt, e = .returned r.val) ∧ Cur W bc ac len cap w' ∧ Keep bc w w') .ret t (wr.setRow w.heap.size #[.int .i64 r.net, .int .i64 r.bits, .int .i64 r.hop]) := by
  have g1 := h.lt
  have g2 := h.bl
  have g3 := h.cur.lo
  have o : ∀ k, k ≠ w.heap.size → (wr.setRow w.heap.size #[.int .i64 r.net, .int .i64 r.bits, .int .i64 r.hop]).heap[k]? = wr.heap[k]? := fun k hk => setRow_other _ _ _ _ hk
  refine bodyPost_ret (results_cell_row Try.results65 _ _ w.heap.size _ _ _ _ h2 (setRow_heap wr w.heap.size _ _ _ _ h.res) Try.underlying78 rfl (by kernel_rfl)) hd ⟨⟨r, rfl⟩, h.cur.other (by omega) o (below_setRow (Below.refl _ _) (by omega) _), ?_⟩
  exact ⟨by rw [size_setRow]; exact h.kp.size, fun k q1 q2 => (o k (by omega)).trans (h.kp.block k q1 q2)⟩
theorem oneR (a b c : Int) : (#[Value.int .i64 a, .int .i64 b, .int .i64 c] : Array Value).all (·.oneCell') = true := by simp [Value.oneCell']
end Go.Proofs.Ytlffnpjnmimnlaa
