import Derived.Test.YtfkkmjejmflgjaaQ0SrPlain
import Derived.RowKit3
import Derived.Below
import Derived.Laws.AppendOwn
import Derived.Laws.OwnMore
import Derived.Laws.MakeOwn
import Derived.Test.YtfkkmjejmflgjaaRows
import Derived.Test.YtfkkmjejmflgjaaQ2SsV
import Derived.WalkKit
import Derived.WalkSpells
import Derived.WalkLawsBesides
/-
  Routes as plain data: which are right, in which order they lie, which fit. By the verifier.
-/
namespace Go.Proofs.Ytfkkmjejmflgjaa
open Go.RowKit

/-- A route. -/
structure Rt where
  net : Int
  bits : Int
  hop : Int
/-- As a value. -/
def Rt.val (r : Rt) : Value := .agg #[.int .i64 r.net, .int .i64 r.bits, .int .i64 r.hop]
/-- Its cells. -/
def Rt.cells (r : Rt) : List Value := [.int .i64 r.net, .int .i64 r.bits, .int .i64 r.hop]
/-- The one at a place. -/
def rtAt (l : List Rt) (k : Nat) : Rt := l[k]?.getD ⟨0, 0, 0⟩
/-- Cells that hold these routes. -/
def RtsAt (w : World) (a : Option Addr) (l : List Rt) : Prop :=
  ∀ k, k < l.length → ∃ b off, a = some ⟨b, off, none⟩ ∧ b < w.heap.size ∧ w.cell? ⟨b, off + k * 3, none⟩ = some (.int .i64 (rtAt l k).net) ∧ w.cell? ⟨b, off + k * 3 + 1, none⟩ = some (.int .i64 (rtAt l k).bits) ∧ w.cell? ⟨b, off + k * 3 + 2, none⟩ = some (.int .i64 (rtAt l k).hop)
theorem RtsAt.below {w w' : World} {a : Option Addr} {l : List Rt} (h : RtsAt w a l) (g : Below w.heap.size w w') : RtsAt w' a l := by
  intro k hk
  obtain ⟨b, off, e, hb, c0, c1, c2⟩ := h k hk
  exact ⟨b, off, e, Nat.lt_of_lt_of_le hb g.size, by rw [g.cell (p := ⟨b, off + k * 3, none⟩) hb]; exact c0, by rw [g.cell (p := ⟨b, off + k * 3 + 1, none⟩) hb]; exact c1, by rw [g.cell (p := ⟨b, off + k * 3 + 2, none⟩) hb]; exact c2⟩
theorem RtsAt.alloc {w : World} {a : Option Addr} {l : List Rt} (h : RtsAt w a l) (o : Obj) : RtsAt (w.alloc o) a l :=
  h.below ((Below.refl _ _).alloc (Nat.le_refl _) _)
theorem RtsAt.drew {w : World} {a : Option Addr} {l : List Rt} (h : RtsAt w a l) : RtsAt w.drew a l := h.below (Below.refl _ _).drew
theorem RtsAt.nil (w : World) (a : Option Addr) : RtsAt w a [] := by intro k hk; simp at hk
theorem RtsAt.none {w : World} {l : List Rt} (h : RtsAt w none l) : l = [] := by
  cases l with
  | nil => rfl
  | cons z zs => obtain ⟨b, off, e, _⟩ := h 0 (by simp); cases e

theorem cells_at {w : World} {b off k : Nat} {l : List Rt} (h : RtsAt w (some ⟨b, off, none⟩) l) (hk : k < l.length) : w.cell? ⟨b, off + k * 3, none⟩ = some (.int .i64 (rtAt l k).net) ∧ w.cell? ⟨b, off + k * 3 + 1, none⟩ = some (.int .i64 (rtAt l k).bits) ∧ w.cell? ⟨b, off + k * 3 + 2, none⟩ = some (.int .i64 (rtAt l k).hop) := by
  obtain ⟨b', off', e, _, c⟩ := h k hk
  cases e
  exact c
/-- A right net. -/
def netB (net bits : Int) : Bool := inB 0 32 bits && (inB 0 4294967295 net && decide (net % 2 ^ (32 - bits).toNat = 0))
/-- A right route. -/
def Rt.ok (r : Rt) : Bool := netB r.net r.bits && inB 0 99 r.hop
/-- The order. -/
def Rt.lt (a b : Rt) : Bool := decide (a.net < b.net ∨ a.net = b.net ∧ a.bits < b.bits)
/-- Right, and behind the one ahead. -/
def good (l : List Rt) (i : Nat) : Bool := (rtAt l i).ok && (decide (i = 0) || (rtAt l (i - 1)).lt (rtAt l i))
/-- The first k are. -/
def goodTo (l : List Rt) (k : Nat) : Bool := (List.range k).all (good l)
theorem goodTo_succ (l : List Rt) (k : Nat) : goodTo l (k + 1) = (goodTo l k && good l k) := by simp [goodTo, List.range_succ]
theorem goodTo_hit {l : List Rt} {k n : Nat} (h : k < n) (g : good l k = false) : goodTo l n = false := by
  unfold goodTo
  rw [List.all_eq_false]
  exact ⟨k, List.mem_range.2 h, by simp [g]⟩
/-- Right routes. -/
def rtsOk (l : List Rt) : Bool := decide (l.length ≤ 64) && goodTo l l.length
/-- The first bits of an address are those of the net. -/
def fitB (net bits addr : Int) : Bool := decide (addr / 2 ^ (32 - bits).toNat * 2 ^ (32 - bits).toNat = net)
/-- Fits. -/
def Rt.fits (r : Rt) (addr : Int) : Bool := r.ok && (inB 0 4294967295 addr && fitB r.net r.bits addr)

theorem pow_le32 {s : Nat} (h : s ≤ 32) : (2 : Int) ^ s ≤ 4294967296 := by
  have : (2 : Nat) ^ s ≤ 2 ^ 32 := Nat.pow_le_pow_right (by decide) h
  have e : ((2 ^ s : Nat) : Int) = (2 : Int) ^ s := by simp
  omega
theorem pow_pos' (s : Nat) : (0 : Int) < (2 : Int) ^ s := by
  have : 0 < (2 : Nat) ^ s := Nat.two_pow_pos s
  have e : ((2 ^ s : Nat) : Int) = (2 : Int) ^ s := by simp
  omega
/-- Of a right net's bits: 32 less some. -/
theorem bits_of {bits : Int} (h : inB 0 32 bits = true) : ∃ s : Nat, s ≤ 32 ∧ bits = 32 - (s : Int) := by
  rw [inB_true] at h
  exact ⟨(32 - bits).toNat, by omega, by omega⟩
theorem pow_of {s : Nat} (h : s ≤ 32) : (2 : Int) ^ (32 - (32 - (s : Int))).toNat = 2 ^ s := by
  rw [show (32 - (32 - (s : Int))).toNat = s by omega]
end Go.Proofs.Ytfkkmjejmflgjaa

/-
  A record of 3 numbers (Route) as plain data, and cells that hold a list of them. By the verifier, by program.
-/
namespace Go.Proofs.Ytfkkmjejmflgjaa
open Go.RowKit
theorem RtsAt.empty {w : World} {l : List Rt} (h : RtsAt w Option.none l) : l = [] := by
  cases l with
  | nil => rfl
  | cons z zs => obtain ⟨b, off, e, _⟩ := h 0 (by simp); cases e
theorem RtsAt.cells {w : World} {b off k : Nat} {l : List Rt} (h : RtsAt w (some ⟨b, off, Option.none⟩) l) (hk : k < l.length) : w.cell? ⟨b, off + k * 3, Option.none⟩ = some (.int .i64 (rtAt l k).net) ∧ w.cell? ⟨b, off + k * 3 + 1, Option.none⟩ = some (.int .i64 (rtAt l k).bits) ∧ w.cell? ⟨b, off + k * 3 + 2, Option.none⟩ = some (.int .i64 (rtAt l k).hop) := by
  obtain ⟨b', off', e, _, c⟩ := h k hk
  cases e
  exact c
/-- The cells of a list. -/
def rtcells (l : List Rt) : List Value := l.flatMap Rt.cells
theorem rtcells_cons (r : Rt) (l : List Rt) : rtcells (r :: l) = .int .i64 r.net :: .int .i64 r.bits :: .int .i64 r.hop :: rtcells l := rfl
theorem rtcells_length (l : List Rt) : (rtcells l).length = l.length * 3 := by
  induction l with
  | nil => rfl
  | cons r l ih => rw [rtcells_cons]; simp [ih]; omega
theorem rtcells_get (l : List Rt) (k : Nat) (hk : k < l.length) : (rtcells l)[k * 3]? = some (.int .i64 (rtAt l k).net) ∧ (rtcells l)[k * 3 + 1]? = some (.int .i64 (rtAt l k).bits) ∧ (rtcells l)[k * 3 + 2]? = some (.int .i64 (rtAt l k).hop) := by
  induction l generalizing k with
  | nil => simp at hk
  | cons r l ih =>
    cases k with
    | zero => simp [rtcells_cons, rtAt]
    | succ k =>
      have := ih k (by simpa using hk)
      rw [show (k + 1) * 3 = k * 3 + 3 by omega]
      simpa [rtcells_cons, rtAt] using this
theorem rtcells_set (l : List Rt) (k : Nat) (r : Rt) : (((rtcells l).set (k * 3) (.int .i64 r.net)).set (k * 3 + 1) (.int .i64 r.bits)).set (k * 3 + 2) (.int .i64 r.hop) = rtcells (l.set k r) := by
  induction l generalizing k with
  | nil => simp [rtcells]
  | cons x l ih =>
    cases k with
    | zero => simp [rtcells_cons]
    | succ k =>
      rw [show (k + 1) * 3 = k * 3 + 3 by omega, List.set_cons_succ, rtcells_cons, rtcells_cons, ← ih k]
      rfl
/-- A list of the call's own. -/
def RtRow (base : Nat) (w : World) (v : Value) (l : List Rt) : Prop := w.ownsRow base 102 3 v l.length (rtcells l)
theorem RtRow.carry {base : Nat} {w w' : World} {v : Value} {l : List Rt} (h : RtRow base w v l) (g : ∀ k, v.ownBlock = some k → k < w.heap.size → w'.heap[k]? = w.heap[k]?) : RtRow base w' v l := by
  refine ⟨h.1, h.2.imp id ?_⟩
  rintro ⟨g0, cap, cur, h1, h2, h3, h4⟩
  exact ⟨g0, cap, cur, h1, h2, by rw [g g0 (by rw [h1]; rfl) (Array.getElem?_eq_some_iff.1 h3).1]; exact h3, h4⟩
theorem RtRow.below {base n : Nat} {w w' : World} {v : Value} {l : List Rt} (h : RtRow base w v l) (hn : ∀ k, v.ownBlock = some k → k < n) (g : Below n w w') : RtRow base w' v l :=
  h.carry fun k hk _ => g.block k (hn k hk)
theorem RtRow.shape {base : Nat} {w : World} {v : Value} {l : List Rt} (h : RtRow base w v l) : ∃ a cap, v = .slice a l.length cap := by
  rcases h.2 with ⟨rfl, hn⟩ | ⟨g, cap, cur, rfl, _⟩
  · rw [hn]; exact ⟨none, 0, rfl⟩
  · exact ⟨_, _, rfl⟩
theorem RtRow.cap {base : Nat} {w : World} {a : Option Addr} {c : Nat} {l : List Rt} (h : RtRow base w (.slice a l.length c) l) : l.length ≤ c := by
  rcases h.2 with ⟨e, hn⟩ | ⟨g', c', cur, e, _, _, h4, _⟩
  · omega
  · cases e; exact h4
theorem RtRow.nilCap {base : Nat} {w : World} {a : Option Addr} {c : Nat} {l : List Rt} (h : RtRow base w (.slice a l.length c) l) : a = none → c = 0 := by
  intro ha
  subst ha
  rcases h.2 with ⟨e, hn⟩ | ⟨g', c', cur, e, _⟩
  · simpa using (Value.slice.inj e).2.2
  · cases e
theorem RtRow.lt {base : Nat} {w : World} {v : Value} {l : List Rt} (h : RtRow base w v l) : ∀ k, v.ownBlock = some k → base ≤ k ∧ k < w.heap.size := World.ownsRow.lt h
theorem RtRow.alloc {base : Nat} {w : World} {v : Value} {l : List Rt} (h : RtRow base w v l) (o : Obj) : RtRow base (w.alloc o) v l := World.ownsRow.alloc h o
theorem RtRow.drew {base : Nat} {w : World} {v : Value} {l : List Rt} (h : RtRow base w v l) : RtRow base w.drew v l := h
theorem RtRow.mono {base base' : Nat} {w : World} {v : Value} {l : List Rt} (h : RtRow base w v l) (hb : base' ≤ base) : RtRow base' w v l := ⟨h.1, h.2.imp id fun ⟨g, cap, cur, h1, h2, h3⟩ => ⟨g, cap, cur, h1, Nat.le_trans hb h2, h3⟩⟩
theorem RtRow.at {base : Nat} {w : World} {a : Option Addr} {cap : Nat} {l : List Rt} (h : RtRow base w (.slice a l.length cap) l) : RtsAt w a l := by
  intro k hk
  rcases h.2 with ⟨_, hn⟩ | ⟨g, cap', cur, e, h2, h3, h4⟩
  · omega
  · obtain ⟨rfl, _, rfl⟩ : a = some ⟨g, 0, none⟩ ∧ True ∧ cap = cap' := by simpa using e
    have hc := World.ownsRow.cellAt (show w.ownsRow base 102 3 (.slice (some ⟨g, 0, none⟩) l.length cap) l.length _ from h)
    obtain ⟨e0, e1, e2⟩ := rtcells_get l k hk
    exact ⟨g, 0, rfl, (Array.getElem?_eq_some_iff.1 h3).1, by rw [Nat.zero_add, hc _ (by omega), e0], by rw [Nat.zero_add, hc _ (by omega), e1], by rw [Nat.zero_add, hc _ (by omega), e2]⟩
/-- One of them put. -/
theorem RtRow.put {base : Nat} {w : World} {g cap n : Nat} {l : List Rt} (h : w.ownsRow base 102 3 (.slice (some ⟨g, 0, none⟩) n cap) n (rtcells l)) (k : Nat) (r : Rt) :
    (((w.setCell ⟨g, k * 3, none⟩ (.int .i64 r.net)).setCell ⟨g, k * 3 + 1, none⟩ (.int .i64 r.bits)).setCell ⟨g, k * 3 + 2, none⟩ (.int .i64 r.hop)).ownsRow base 102 3 (.slice (some ⟨g, 0, none⟩) n cap) n (rtcells (l.set k r)) := by
  have h1 := (h.stored (k * 3) (.int .i64 r.net)).1
  have h2 := (h1.stored (k * 3 + 1) (.int .i64 r.bits)).1
  have h3 := (h2.stored (k * 3 + 2) (.int .i64 r.hop)).1
  rw [rtcells_set] at h3
  exact h3
end Go.Proofs.Ytfkkmjejmflgjaa

/-
  Lists of records (Route) that lie wherever: read. By the verifier, by program.
-/
namespace Go.Proofs.Ytfkkmjejmflgjaa
open Go.RowKit

/-- A list of records in blocks from b up to t. -/
def RtIn (b t : Nat) (w : World) (v : Value) (l : List Rt) : Prop := SlIn b t w v l.length (rtcells l)
theorem rtcells_ne {l : List Rt} (h : 0 < l.length) : rtcells l ≠ [] := by
  intro e
  have := rtcells_length l
  rw [e] at this
  simp at this
  omega
theorem RtsAt.of_in {b t : Nat} {w : World} {a : Option Addr} {cap : Nat} {l : List Rt} (h : RtIn b t w (.slice a l.length cap) l) : RtsAt w a l := by
  intro k hk
  obtain ⟨g, off, rfl, h1, h2, h3⟩ := SlIn.some h (rtcells_ne (by omega))
  have hl := rtcells_length l
  obtain ⟨e0, e1, e2⟩ := rtcells_get l k hk
  refine ⟨g, off, rfl, by omega, ?_, ?_, ?_⟩
  · have := (SlIn.cells h (k * 3) (by omega)).1
    rw [e0] at this
    exact this
  · have := (SlIn.cells h (k * 3 + 1) (by omega)).1
    rw [e1] at this
    exact this
  · have := (SlIn.cells h (k * 3 + 2) (by omega)).1
    rw [e2] at this
    exact this
theorem RtIn.of_row {b t : Nat} {w : World} {v : Value} {l : List Rt} (h : RtRow b w v l) (ht : ∀ k, v.ownBlock = some k → k < t) (hs : t ≤ w.heap.size) : RtIn b t w v l := SlIn.of_row h ht hs
end Go.Proofs.Ytfkkmjejmflgjaa

/-
  Lists of Route as values, with memory of their own or not. By the verifier.
-/
namespace Go.Proofs.Ytfkkmjejmflgjaa
open Go.RowKit

def RtsV (w : World) (v : Value) (l : List Rt) : Prop := ∃ a c, v = .slice a l.length c ∧ RtsAt w a l ∧ l.length ≤ c ∧ (a = none → c = 0)
def RtsW (b t : Nat) (w : World) (v : Value) (l : List Rt) : Prop := RtIn b t w v l ∧ ∃ a c, v = .slice a l.length c ∧ l.length ≤ c ∧ (a = none → c = 0)
section
variable {b t : Nat} {w w' : World} {v : Value} {l : List Rt}
theorem RtsW.at (h : RtsW b t w v l) : RtsV w v l := by
  obtain ⟨h1, a, c, rfl, h2⟩ := h
  exact ⟨a, c, rfl, RtsAt.of_in h1, h2⟩
theorem RtsV.below (h : RtsV w v l) (g : Below w.heap.size w w') : RtsV w' v l := by
  obtain ⟨a, c, e, h1, h2⟩ := h
  exact ⟨a, c, e, h1.below g, h2⟩
theorem RtsW.keep (h : RtsW b t w v l) (hs : w.heap.size ≤ w'.heap.size) (hk : ∀ k, b ≤ k → k < t → w'.heap[k]? = w.heap[k]?) : RtsW b t w' v l := ⟨SlIn.keep h.1 hs hk, h.2⟩
theorem RtsW.below (h : RtsW b t w v l) (g : Below w.heap.size w w') : RtsW b t w' v l := ⟨SlIn.below h.1 g, h.2⟩
theorem RtsW.cells (h : RtsW b t w v l) : ∃ p q, v = .slice p l.length q := by
  obtain ⟨_, a, c, e, _⟩ := h
  exact ⟨a, c, e⟩
theorem RtsW.of_row (h : RtRow b w v l) : RtsW b w.heap.size w v l := by
  refine ⟨RtIn.of_row h (fun k hk => (h.lt k hk).2) (Nat.le_refl _), ?_⟩
  obtain ⟨a, c, e⟩ := h.shape
  subst e
  exact ⟨a, c, rfl, h.cap, h.nilCap⟩
end
end Go.Proofs.Ytfkkmjejmflgjaa

/-
  Numbers within bounds, the model's way. By the verifier.
-/
namespace Go.Proofs.Ytfkkmjejmflgjaa
open Go.RowKit

theorem ret_bool {a b : Bool} (h : a = b) : Ending.returned (.bool a) = .returned (.bool b) := by rw [h]
theorem ret_num {a b : Int} (h : a = b) : Ending.returned (.int .i64 a) = .returned (.int .i64 b) := by rw [h]
theorem specIn (n lo hi : Int) (w : World) :
    Calls Try.prog 51 #[.int .i64 n, .int .i64 lo, .int .i64 hi] w fun e w' => e = .returned (.bool (inB lo hi n)) ∧ w' = w := by
  by_cases h0 : lo ≤ n
  · by_cases h1 : n ≤ hi
    · have h : inB lo hi n = true := by rw [inB_true]; omega
      rw [h]
      go_enter Try.func51, Try.ntmps51
      go_wp2
      go_ret
      exact ⟨rfl, rfl⟩
    · have h : inB lo hi n = false := by rw [inB_false]; omega
      rw [h]
      go_enter Try.func51, Try.ntmps51
      go_wp2
      go_ret
      exact ⟨rfl, rfl⟩
  · have h : inB lo hi n = false := by rw [inB_false]; omega
    rw [h]
    go_enter Try.func51, Try.ntmps51
    go_wp2
    go_ret
    exact ⟨rfl, rfl⟩
end Go.Proofs.Ytfkkmjejmflgjaa

/-
  Numbers within bounds, the program's way; numbers that lie in cells. By the verifier.
-/
namespace Go.Proofs.Ytfkkmjejmflgjaa
open Go.RowKit

theorem all_take_succ' (p : Int → Bool) (zs : List Int) (k : Nat) (hk : k < zs.length) :
    (zs.take (k + 1)).all p = ((zs.take k).all p && p (zs[k]?.getD 0)) := by
  rw [List.take_succ_eq_append_getElem hk, List.all_append]; simp [List.getElem?_eq_getElem hk]
theorem all_hit' (p : Int → Bool) (zs : List Int) (k : Nat) (hk : k < zs.length) (h : p (zs[k]?.getD 0) = false) : zs.all p = false := by
  rw [List.all_eq_false]
  exact ⟨zs[k], List.getElem_mem hk, by simp [List.getElem?_eq_getElem hk] at h; simp [h]⟩

theorem implUpTo (most : Int) (a : Option Addr) (cap : Nat) (zs : List Int) (w : World) (hbig : zs.length ≤ 1048576) (hc : Hid (IntsAt w a zs)) :
    Calls Try.prog 55 #[.int .i64 most, .slice a zs.length cap] w fun e w' => e = .returned (.bool (zs.all (inB 0 most))) ∧ w' = w := by
  obtain ⟨len, hlen⟩ : ∃ n, zs.length = n := ⟨_, rfl⟩
  rw [hlen] at hbig ⊢
  have Hlen : Hid (zs.length = len) := hlen
  clear hlen
  go_enter Try.func55, Try.ntmps55
  go_wp2
  go_loop [9] (fun i => ∃ k : Nat, k ≤ len ∧ i = .int .i64 k ∧ (zs.take k).all (inB 0 most) = true) (fun i => len - (intOf i).toNat)
  case atStart => exact ⟨0, Nat.zero_le _, rfl, rfl⟩
  case round =>
    obtain ⟨k, hk, rfl, hall⟩ := hrel
    have Hall : Hid ((zs.take k).all (inB 0 most) = true) := hall
    clear hall
    by_cases hlt : k < len
    · obtain ⟨b, off, ha, hb, hcell⟩ := hc.out k (by rw [Hlen.out]; exact hlt)
      subst ha
      have hs := all_take_succ' (inB 0 most) zs k (by rw [Hlen.out]; exact hlt)
      have hh := all_hit' (inB 0 most) zs k (by rw [Hlen.out]; exact hlt)
      rw [Hall.out] at hs
      generalize zs[k]?.getD 0 = z at hcell hs hh
      have Hs : Hid ((zs.take (k + 1)).all (inB 0 most) = (true && inB 0 most z)) := hs
      have Hh : Hid (inB 0 most z = false → zs.all (inB 0 most) = false) := hh
      clear hs hh
      by_cases z0 : 0 ≤ z
      · by_cases z1 : z ≤ most
        · have hok : Hid (inB 0 most z = true) := by show inB 0 most z = true; rw [inB_true]; omega
          go_wp2
          go_round
          case rel => exact ⟨k + 1, by omega, by go_num, by rw [Hs.out, hok.out]; rfl⟩
          case measure => simp [intOf]; omega
        · have hok : Hid (inB 0 most z = false) := by show inB 0 most z = false; rw [inB_false]; omega
          go_wp2
          go_ret
          rw [Hh.out hok.out]
          exact ⟨rfl, rfl⟩
      · have hok : Hid (inB 0 most z = false) := by show inB 0 most z = false; rw [inB_false]; omega
        go_wp2
        go_ret
        rw [Hh.out hok.out]
        exact ⟨rfl, rfl⟩
    · go_wp2
      go_ret
      have : zs.take k = zs := List.take_of_length_le (by rw [Hlen.out]; omega)
      rw [← this, Hall.out]
      exact ⟨rfl, rfl⟩

theorem implUpTo1 (most n : Int) (w : World) (B : Nat) (hB : B = w.heap.size) :
    Calls Try.prog 55 #[.int .i64 most, .slice (some ⟨B, 0, none⟩) 1 1] (w.alloc (.cells #[.int .i64 n] 2)) fun e w' => e = .returned (.bool (inB 0 most n)) ∧ w' = w.alloc (.cells #[.int .i64 n] 2) := by
  have h := implUpTo most (some ⟨B, 0, none⟩) 1 [n] (w.alloc (.cells #[.int .i64 n] 2)) (by simp) (show Hid _ from ints_new w 2 [n] #[.int .i64 n] B hB rfl)
  simpa using h
end Go.Proofs.Ytfkkmjejmflgjaa

/-
  Addresses within bounds, the model's way. By the verifier.
-/
namespace Go.Proofs.Ytfkkmjejmflgjaa
open Go.RowKit

theorem specAddr (n : Int) (w : World) :
    Calls Try.prog 89 #[.int .i64 n] w fun e w' => e = .returned (.bool (inB 0 4294967295 n)) ∧ w' = w := by
  go_enter Try.func89, Try.ntmps89
  go_wp2_with (go_at_call 51; refine (specIn _ _ _ _).mono ?_; rintro e w' ⟨rfl, rfl⟩)
  go_ret
  exact ⟨rfl, rfl⟩
end Go.Proofs.Ytfkkmjejmflgjaa

/-
  The model's way to tell a right net. By the verifier.
-/
namespace Go.Proofs.Ytfkkmjejmflgjaa
open Go.RowKit

theorem specNet (net bits : Int) (w : World) :
    Calls Try.prog 85 #[.int .i64 net, .int .i64 bits] w fun e w' => e = .returned (.bool (netB net bits)) ∧ w' = w := by
  have Hn : Hid (netB net bits = _) := rfl
  cases hb : inB 0 32 bits
  · have hb' : netB net bits = false := by rw [netB, hb]; rfl
    rw [hb']
    clear Hn hb'
    have C := specIn bits 0 32 w
    rw [hb] at C
    clear hb
    go_enter Try.func85, Try.ntmps85
    go_wp2_with (go_at_call 51; refine C.mono ?_; rintro e w' ⟨rfl, rfl⟩)
    go_ret
    exact ⟨rfl, rfl⟩
  cases hn : inB 0 4294967295 net
  · have hb' : netB net bits = false := by rw [netB, hb, hn]; rfl
    rw [hb']
    clear Hn hb'
    have C := specIn bits 0 32 w
    have D := specAddr net w
    rw [hb] at C
    rw [hn] at D
    clear hb hn
    go_enter Try.func85, Try.ntmps85
    go_wp2_with (first | (go_at_call 51; refine C.mono ?_; rintro e w' ⟨rfl, rfl⟩) | (go_at_call 89; refine D.mono ?_; rintro e w' ⟨rfl, rfl⟩))
    go_ret
    exact ⟨rfl, rfl⟩
  have hnb : netB net bits = decide (net % 2 ^ (32 - bits).toNat = 0) := by rw [netB, hb, hn]; rfl
  have C := specIn bits 0 32 w
  have D := specAddr net w
  rw [hb] at C
  rw [hn] at D
  clear Hn
  obtain ⟨s, hs, rfl⟩ := bits_of hb
  rw [pow_of hs] at hnb
  rw [hnb]
  have hn' := inB_true.1 hn
  clear hb hn hnb
  have hw : wrap64 (2 ^ (32 - (32 - s))) = 2 ^ s := by
    rw [show 32 - (32 - s) = s by omega]
    have := pow_le32 hs
    have := pow_pos' s
    unfold wrap64; omega
  have hm := pow_pos' s
  have hm1 := pow_le32 hs
  generalize (2 : Int) ^ s = m at hw hm hm1 ⊢
  have hm0 : ¬ m = 0 := by omega
  have ht : net.tmod m = net % m := Int.tmod_eq_emod_of_nonneg hn'.1
  go_enter Try.func85, Try.ntmps85
  go_wp2_with (first | (go_at_call 51; refine C.mono ?_; rintro e w' ⟨rfl, rfl⟩) | (go_at_call 89; refine D.mono ?_; rintro e w' ⟨rfl, rfl⟩))
  go_ret
  exact ⟨rfl, rfl⟩
end Go.Proofs.Ytfkkmjejmflgjaa
