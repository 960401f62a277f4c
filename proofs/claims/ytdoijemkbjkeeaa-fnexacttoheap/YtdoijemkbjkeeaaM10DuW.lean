import Derived.Test.YtdoijemkbjkeeaaM0DzPlain
import Derived.Test.YtdoijemkbjkeeaaBoxed
import Derived.Test.YtdoijemkbjkeeaaDuPlain
import Derived.RegionTactic
import Derived.WalkKit
import Derived.Test.YtdoijemkbjkeeaaM1NumIn
import Derived.Test.YtdoijemkbjkeeaaQuiet
import Derived.Test.YtdoijemkbjkeeaaM9DuMarkG
/-
  Nothing but what lies between two places was turned. By the verifier.
-/
namespace Go.Proofs.Ytdoijemkbjkeeaa
open Go.RowKit

/-- Nothing but what lies from b up to t was turned; what is new lies behind. -/
structure Span (b t : Nat) (w w' : World) : Prop where
  os : w'.os = w.os
  tape : w'.tape = w.tape
  output : w'.output = w.output
  size : w.heap.size ≤ w'.heap.size
  block : ∀ k, k < w.heap.size → k < b ∨ t ≤ k → w'.heap[k]? = w.heap[k]?
theorem Span.refl (b t : Nat) (w : World) : Span b t w w := ⟨rfl, rfl, rfl, Nat.le_refl _, fun _ _ _ => rfl⟩
theorem Span.trans {b t : Nat} {x y z : World} (h : Span b t x y) (g : Span b t y z) : Span b t x z :=
  ⟨g.os.trans h.os, g.tape.trans h.tape, g.output.trans h.output, Nat.le_trans h.size g.size, fun k hk hb => (g.block k (Nat.lt_of_lt_of_le hk h.size) hb).trans (h.block k hk hb)⟩
theorem Span.of_turn {H : Nat → Nat → Prop} {b t : Nat} {w w' : World} (h : Turn H w w') (hb : ∀ k o, H k o → b ≤ k ∧ k < t) : Span b t w w' :=
  ⟨h.os, h.tape, h.output, Nat.le_of_eq h.size.symm, fun k _ hk => h.block k fun o ho => by have := hb k o ho; omega⟩
theorem Span.of_below {b t : Nat} {w w' : World} (h : Below w.heap.size w w') : Span b t w w' := ⟨h.os, h.tape, h.output, h.size, fun k hk _ => h.block k hk⟩
theorem Span.below {b t n : Nat} {w w' : World} (h : Span b t w w') (hn : n ≤ b) (hs : n ≤ w.heap.size) : Below n w w' := ⟨h.os, h.tape, h.output, h.size, fun k hk => h.block k (by omega) (.inl (by omega))⟩
end Go.Proofs.Ytdoijemkbjkeeaa

/-
  What lies in memory as a list of things: each turns on the blocks from lo up to hi alone. By the verifier.
-/
namespace Go.Proofs.Ytdoijemkbjkeeaa
open Go.RowKit

structure Thing where
  P : World → Prop
  lo : Nat
  hi : Nat
  keep : ∀ {W W' : World}, P W → W.heap.size ≤ W'.heap.size → (∀ k, lo ≤ k → k < hi → W'.heap[k]? = W.heap[k]?) → P W'
  lt : ∀ {W : World}, P W → hi ≤ W.heap.size
def AllT : List Thing → World → Prop
  | [], _ => True
  | t :: r, W => t.P W ∧ AllT r W
def OffT (b t : Nat) : List Thing → Prop
  | [] => True
  | x :: r => (x.hi ≤ b ∨ t ≤ x.lo) ∧ OffT b t r
theorem AllT.below : ∀ {ts : List Thing} {W W' : World}, AllT ts W → Below W.heap.size W W' → AllT ts W'
  | [], _, _, _, _ => trivial
  | t :: _, _, _, h, g => ⟨t.keep h.1 g.size (fun k _ hk => g.block k (Nat.lt_of_lt_of_le hk (t.lt h.1))), AllT.below h.2 g⟩
theorem AllT.span : ∀ {ts : List Thing} {W W' : World} {b t : Nat}, AllT ts W → Span b t W W' → OffT b t ts → AllT ts W'
  | [], _, _, _, _, _, _, _ => trivial
  | x :: _, _, _, _, _, h, g, o => ⟨x.keep h.1 g.size (fun k h1 h2 => g.block k (Nat.lt_of_lt_of_le h2 (x.lt h.1)) (by
      rcases o.1 with q | q
      · left; omega
      · right; omega)), AllT.span h.2 g o.2⟩
theorem AllT.app : ∀ {ts us : List Thing} {W : World}, AllT ts W → AllT us W → AllT (ts ++ us) W
  | [], _, _, _, h => h
  | _ :: _, _, _, h, g => ⟨h.1, AllT.app h.2 g⟩
/-- All that lies, and what lay before the call. -/
def Lies (w : World) (ts : List Thing) (W : World) : Prop := AllT ts W ∧ Below w.heap.size w W
theorem Lies.below {w : World} {ts : List Thing} {W W' : World} (h : Lies w ts W) (g : Below W.heap.size W W') : Lies w ts W' := ⟨h.1.below g, h.2.trans (g.mono h.2.size)⟩
theorem Lies.span {w : World} {ts : List Thing} {W W' : World} {b t : Nat} (h : Lies w ts W) (g : Span b t W W') (o : OffT b t ts) (hb : w.heap.size ≤ b) : Lies w ts W' := ⟨h.1.span g o, h.2.trans (g.below hb h.2.size)⟩
theorem Lies.more {w : World} {ts us : List Thing} {W W' : World} (h : Lies w ts W) (g : Below W.heap.size W W') (u : AllT us W') : Lies w (ts ++ us) W' := ⟨(h.below g).1.app u, (h.below g).2⟩
abbrev Thing.box (B : Nat) (cs : Array Value) (t : TypeId) : Thing where
  P := fun W => Boxed W B cs t
  lo := B
  hi := B + 1
  keep := fun h _ g => by unfold Boxed at *; rw [g B (Nat.le_refl _) (by omega)]; exact h
  lt := fun h => h.under
/-- Memory from b up to t. -/
abbrev Thing.own (P : World → Prop) (b t : Nat) (hk : ∀ {W W' : World}, P W → W.heap.size ≤ W'.heap.size → (∀ k, b ≤ k → k < t → W'.heap[k]? = W.heap[k]?) → P W') : Thing where
  P := fun W => P W ∧ t ≤ W.heap.size
  lo := b
  hi := t
  keep := fun h s g => ⟨hk h.1 s g, Nat.le_trans h.2 s⟩
  lt := fun h => h.2
end Go.Proofs.Ytdoijemkbjkeeaa

/-
  Lists of dues as values, with memory of their own or not. By the verifier.
-/
namespace Go.Proofs.Ytdoijemkbjkeeaa
open Go.RowKit

def DusV (w : World) (v : Value) (l : List Du) : Prop := ∃ a c, v = .slice a l.length c ∧ DusAt w a l ∧ l.length ≤ c ∧ (a = none → c = 0)
def DusW (b t : Nat) (w : World) (v : Value) (l : List Du) : Prop := DuIn b t w v l ∧ ∃ a c, v = .slice a l.length c ∧ l.length ≤ c ∧ (a = none → c = 0)
section
variable {b t : Nat} {w w' : World} {v : Value} {l : List Du}
theorem DusW.at (h : DusW b t w v l) : DusV w v l := by
  obtain ⟨h1, a, c, rfl, h2⟩ := h
  exact ⟨a, c, rfl, DusAt.of_in h1, h2⟩
theorem DusV.below (h : DusV w v l) (g : Below w.heap.size w w') : DusV w' v l := by
  obtain ⟨a, c, e, h1, h2⟩ := h
  exact ⟨a, c, e, h1.below g, h2⟩
theorem DusW.keep (h : DusW b t w v l) (hs : w.heap.size ≤ w'.heap.size) (hk : ∀ k, b ≤ k → k < t → w'.heap[k]? = w.heap[k]?) : DusW b t w' v l := ⟨SlIn.keep h.1 hs hk, h.2⟩
theorem DusW.below (h : DusW b t w v l) (g : Below w.heap.size w w') : DusW b t w' v l := ⟨SlIn.below h.1 g, h.2⟩
theorem DusW.cells (h : DusW b t w v l) : ∃ p q, v = .slice p l.length q := by
  obtain ⟨_, a, c, e, _⟩ := h
  exact ⟨a, c, e⟩
theorem DusW.of_row (h : DuRow b w v l) : DusW b w.heap.size w v l := by
  refine ⟨DuIn.of_row h (fun k hk => (h.lt k hk).2) (Nat.le_refl _), ?_⟩
  obtain ⟨a, c, e⟩ := h.shape
  subst e
  exact ⟨a, c, rfl, h.cap, h.nilCap⟩
end
end Go.Proofs.Ytdoijemkbjkeeaa

/-
  The walk of the laws' copy of a record (Due). By the verifier, by program.
-/
namespace Go.Proofs.Ytdoijemkbjkeeaa
open Go.RowKit

set_option maxHeartbeats 1600000 in
theorem toDu (r : Du) (w : World) :
    Calls Try.prog 9 #[r.val] w fun e w' => e = .returned r.val ∧ w' = ((w.alloc (.cells r.cells.toArray 26)).alloc (.cells r.cells.toArray 34)).alloc (.cells r.cells.toArray 34) := by
  unfold Du.val Du.cells
  obtain ⟨v0, v1⟩ := r
  simp only []
  go_enter Try.func9, Try.ntmps9
  go_wp2
  refine bodyPost_ret (v := .agg #[.int .i64 v0, .int .i64 v1]) (by simp [results, Try.results9, go_sem]) rfl ⟨rfl, rfl⟩
theorem toDuB (r : Du) (w : World) :
    Calls Try.prog 9 #[r.val] w fun e w' => e = .returned r.val ∧ Below w.heap.size w w' :=
  (toDu r w).mono fun _ _ h => ⟨h.1, by
    rw [h.2]
    exact (((Below.refl _ w).alloc (Nat.le_refl _) _).alloc (by simp) _).alloc (by simp; omega) _⟩
end Go.Proofs.Ytdoijemkbjkeeaa

/-
  The walk of the laws' comparison of records (Due), where both hold the same. By the verifier, by program.
-/
namespace Go.Proofs.Ytdoijemkbjkeeaa
open Go.RowKit

set_option maxHeartbeats 1600000 in
theorem eqDu (r : Du) (w : World) :
    Calls Try.prog 46 #[r.val, r.val] w fun e w' => e = .returned (.bool true) ∧ Below w.heap.size w w' := by
  unfold Du.val
  obtain ⟨v0, v1⟩ := r
  simp only []
  go_enter Try.func46, Try.ntmps46
  go_wp2
  go_ret
  exact ⟨rfl, ((Below.refl _ w).alloc (Nat.le_refl _) _).alloc (by simp) _⟩
end Go.Proofs.Ytdoijemkbjkeeaa

/-
  The walks of the laws' copies of lists of records (Due), of their sizes, and of their comparisons where both hold the same. By the verifier, by program.
-/
namespace Go.Proofs.Ytdoijemkbjkeeaa
open Go.RowKit

set_option maxHeartbeats 3200000 in
set_option maxRecDepth 100000 in
theorem eqDus (a1 a2 : Option Addr) (cap1 cap2 : Nat) (l : List Du) (w : World) (hT : l.length ≤ 1048576) (h1 : Hid (DusAt w a1 l)) (h2 : Hid (DusAt w a2 l)) :
    Calls Try.prog 18 #[.slice a1 l.length cap1, .slice a2 l.length cap2] w fun e w' => e = .returned (.bool true) ∧ Below w.heap.size w w' := by
  obtain ⟨len, hlen⟩ : ∃ n, l.length = n := ⟨_, rfl⟩
  rw [hlen] at hT ⊢
  have Hlen : Hid (l.length = len) := hlen
  clear hlen
  go_enter Try.func18, Try.ntmps18
  go_wp2
  go_loopw [5] (fun i wr => ∃ k : Nat, k ≤ len ∧ i = .int .i64 k ∧ Hid (Below w.heap.size w wr)) (fun i _ => len - (intOf i).toNat)
  case atStart => exact ⟨0, Nat.zero_le _, rfl, Below.refl _ _⟩
  case round =>
    obtain ⟨k, hk, rfl, hb⟩ := hrel
    by_cases hlt : k < len
    · have R1 : Hid (DusAt wr a1 l) := h1.out.below hb.out
      have R2 : Hid (DusAt wr a2 l) := h2.out.below hb.out
      obtain ⟨b1, o1, ha1, -⟩ := R1.out k (by rw [Hlen.out]; exact hlt)
      obtain ⟨b2, o2, ha2, -⟩ := R2.out k (by rw [Hlen.out]; exact hlt)
      subst ha1; subst ha2
      have F1 := fun p : BelW wr.heap.size wr => (R1.out.below p.h).cells (k := k) (by rw [Hlen.out]; exact hlt)
      have F2 := fun p : BelW wr.heap.size wr => (R2.out.below p.h).cells (k := k) (by rw [Hlen.out]; exact hlt)
      have E := fun w => eqDu (duAt l k) w
      unfold Du.val at E
      generalize duAt l k = r at F1 F2 E
      have f1_0 := fun p => (F1 p).1
      have f1_1 := fun p => (F1 p).2
      have f2_0 := fun p => (F2 p).1
      have f2_1 := fun p => (F2 p).2
      clear F1 F2
      have hlt' : (k : Int) < (len : Int) := by omega
      go_wp2
      haveI : Nonempty (BelW wr.heap.size wr) := ⟨⟨wr, Below.refl _ _⟩⟩
      refine region_below wr.heap.size (by kernel_rfl) (by kernel_rfl) ?_
      repeat (quiet_step ((go_at_call 46; refine quiet_below (Nat.le_refl _) (E _))))
      refine wpQuiet_nil ?_
      intro wq hx
      have hq := BelW.out hx
      have B : Hid (Below w.heap.size w wq) := hb.out.trans (hq.mono hb.out.size)
      clear hx hq f1_0 f1_1 f2_0 f2_1
      go_wp2
      go_roundw
      case rel => exact ⟨k + 1, by omega, by go_num, B⟩
      case measure => simp [intOf]; omega
    · go_wp2
      go_ret
      exact ⟨rfl, hb.out⟩

set_option maxHeartbeats 3200000 in
set_option maxRecDepth 100000 in
theorem toDus (a : Option Addr) (cap : Nat) (l : List Du) (w : World) (hT : l.length ≤ 1048576) (h : Hid (DusAt w a l)) :
    Calls Try.prog 16 #[.slice a l.length cap] w fun e w' => ∃ g, e = .returned (.slice (some ⟨g, 0, none⟩) l.length l.length) ∧ DuRow w.heap.size w' (.slice (some ⟨g, 0, none⟩) l.length l.length) l ∧ Below w.heap.size w w' := by
  obtain ⟨i0, hi, hz0, hz1, hz2⟩ := info_parts duInfo
  obtain ⟨len, hlen⟩ : ∃ n, l.length = n := ⟨_, rfl⟩
  unfold DuRow
  rw [hlen] at hT ⊢
  have Hlen : Hid (l.length = len) := hlen
  clear hlen
  have hmk : ∀ wx, (Instr.makeSlice 42 (.int .i64 (len : Int)) (.int .i64 (len : Int))).run Try.prog wx = .ok (.slice (some ⟨wx.heap.size, 0, none⟩) len len) (wx.alloc (.cells (madeCells #[.int .i64 0, .int .i64 0] (len * 2)) 34)) := by
    intro wx
    have := run_make (P := Try.prog) wx 42 34 i0 (.agg #[.int .i64 0, .int .i64 0]) Try.underlying42 hi hz0 .i64 .i64 len len (by omega) (by omega) (by rw [hz2]; omega) (by omega)
    rw [this, hz1]; simp [Value.cells]
  have H0 : Hid ((w.alloc (.cells (madeCells #[.int .i64 0, .int .i64 0] (len * 2)) 34)).ownsRow w.heap.size 34 2 (.slice (some ⟨w.heap.size, 0, none⟩) len len) len (ducells (l.take 0 ++ List.replicate (len - 0) ⟨0, 0⟩))) := by
    have := World.ownsRow_lit (size := 2) (e := 34) (base := w.heap.size) w (madeCells #[.int .i64 0, .int .i64 0] (len * 2)) len (Nat.le_refl _) (by unfold maxLen; omega) (by rw [size_madeCells])
    rw [duMade] at this
    show World.ownsRow _ _ _ _ _ _ _
    simpa using this
  clear hi hz0 hz1 hz2
  go_enter Try.func16, Try.ntmps16
  go_wp2
  go_loopw [4] (fun i wr => ∃ k : Nat, k ≤ len ∧ i = .int .i64 k ∧ Hid (wr.ownsRow w.heap.size 34 2 (.slice (some ⟨w.heap.size, 0, none⟩) len len) len (ducells (l.take k ++ List.replicate (len - k) ⟨0, 0⟩)) ∧ Below w.heap.size w wr)) (fun i _ => len - (intOf i).toNat)
  case atStart => exact ⟨0, Nat.zero_le _, rfl, H0.out, (Below.refl _ _).alloc (Nat.le_refl _) _⟩
  case round =>
    clear H0 hmk
    obtain ⟨k, hk, rfl, H1⟩ := hrel
    by_cases hlt : k < len
    · have R : Hid (DusAt wr a l) := h.out.below H1.out.2
      obtain ⟨b1, o1, ha1, hb1, -⟩ := R.out k (by rw [Hlen.out]; exact hlt)
      subst ha1
      obtain ⟨c0, c1⟩ := R.out.cells (k := k) (by rw [Hlen.out]; exact hlt)
      have hts := duTakeSet l len k Hlen.out hlt
      have T := fun w => toDuB (duAt l k) w
      unfold Du.val at T
      generalize duAt l k = r at c0 c1 hts T
      have Hts : Hid _ := hts
      clear hts
      go_wp2_with fail
      refine (T _).mono ?_
      rintro e w2 ⟨rfl, b2⟩
      have hsz : w.heap.size < wr.heap.size := (World.ownsRow.lt H1.out.1 _ rfl).2
      have H2 : Hid (w2.ownsRow w.heap.size 34 2 (.slice (some ⟨w.heap.size, 0, none⟩) len len) len (ducells (l.take k ++ List.replicate (len - k) ⟨0, 0⟩)) ∧ Below w.heap.size w w2) := by
        refine ⟨?_, H1.out.2.trans (b2.mono H1.out.2.size)⟩
        have hh := H1.out.1
        refine ⟨hh.1, hh.2.imp id ?_⟩
        rintro ⟨g0, cp, cur, h1, h2, h3, h4⟩
        cases h1
        exact ⟨_, _, cur, rfl, h2, by rw [b2.block _ hsz]; exact h3, h4⟩
      have hL : (ducells (l.take k ++ List.replicate (len - k) ⟨0, 0⟩)).length = len * 2 := by
        rw [ducells_length]; have := Hlen.out; simp; omega
      have ex : ∀ j, j < len * 2 → ∃ v, w2.cell? ⟨w.heap.size, j, none⟩ = some v := by
        intro j hj
        rw [H2.out.1.cellAt j hj]
        exact ⟨_, List.getElem?_eq_getElem (by omega)⟩
      obtain ⟨y0, hy0⟩ := ex (k * 2) (by omega)
      obtain ⟨y1, hy1⟩ := ex (k * 2 + 1) (by omega)
      have z0 := H2.out.1.frozenAt (k * 2)
      have z1 := H2.out.1.frozenAt (k * 2 + 1)
      have H3 : Hid (_ ∧ Below w.heap.size w ((w2.setCell ⟨w.heap.size, k * 2, none⟩ (.int .i64 r.time)).setCell ⟨w.heap.size, k * 2 + 1, none⟩ (.int .i64 r.id))) := ⟨DuRow.put H2.out.1 k r, (H2.out.2.setCell (Nat.le_refl _) _).setCell (Nat.le_refl _) _⟩
      clear b2 hL ex H1 R H2
      go_wp2
      go_roundw
      case rel => exact ⟨k + 1, by omega, by go_num, by rw [← Hts.out]; exact H3.out⟩
      case measure => simp [intOf]; omega
    · obtain rfl : k = len := by omega
      go_wp2
      go_ret
      refine ⟨_, rfl, ?_, H1.out.2⟩
      have hh := H1.out.1
      rw [Nat.sub_self, List.take_of_length_le (by rw [Hlen.out]; omega)] at hh
      simpa using hh

theorem szDus (L : Int) (h0 : 0 ≤ L) (h1 : L ≤ 1048576) (a : Option Addr) (cap len : Nat) (w : World) (hl : (len : Int) ≤ 9223372036854775807) :
    Calls Try.prog 14 #[.slice a len cap, .int .i64 L] w fun e w' => e = .returned (.int .i64 (if L - len < 0 then -1 else L - len)) ∧ w' = w := by
  by_cases h : L - len < 0
  · rw [if_pos h]
    go_enter Try.func14, Try.ntmps14
    go_wp2
    go_ret
    exact ⟨rfl, rfl⟩
  · rw [if_neg h]
    go_enter Try.func14, Try.ntmps14
    go_wp2
    go_ret
    exact ⟨rfl, rfl⟩
end Go.Proofs.Ytdoijemkbjkeeaa

/-
  Lists of dues as values with memory: what the laws' own functions do on them, in the form that records with memory have. By the verifier.
-/
namespace Go.Proofs.Ytdoijemkbjkeeaa
open Go.RowKit

def duMk1 (l : List Du) : List Du := duMksF 1 l l.length
theorem duMk1_length (l : List Du) : (duMk1 l).length = l.length := duMksF_length 1 l l.length (Nat.le_refl _)
theorem toDuW (a : Option Addr) (c : Nat) (l : List Du) (w : World) (hT : l.length ≤ 1048576) (h : Hid (DusAt w a l)) :
    Calls Try.prog 16 #[.slice a l.length c] w fun e w' => (∃ v, e = .returned v ∧ DusW w.heap.size w'.heap.size w' v l) ∧ Below w.heap.size w w' :=
  (toDus a c l w hT h).mono fun e w' hh => by
    obtain ⟨g, rfl, hr, hb⟩ := hh
    exact ⟨⟨_, rfl, DusW.of_row hr⟩, hb⟩
theorem eqDuW (v1 v2 : Value) (l : List Du) (w : World) (hT : l.length ≤ 1048576) (h1 : Hid (DusV w v1 l)) (h2 : Hid (DusV w v2 l)) :
    Calls Try.prog 18 #[v1, v2] w fun e w' => e = .returned (.bool true) ∧ Below w.heap.size w w' := by
  obtain ⟨a1, c1, rfl, k1, _⟩ := h1.out
  obtain ⟨a2, c2, rfl, k2, _⟩ := h2.out
  exact eqDus a1 a2 c1 c2 l w hT k1 k2
theorem markDuW (b t : Nat) (v : Value) (l : List Du) (w : World) (hT : l.length ≤ 1048576) (H : Hid (DusW b t w v l)) :
    Calls Try.prog 19 #[v, .int .i64 1] w fun e w' => e = .returned (.int .i64 (1 + 2 * (l.length : Int))) ∧ DusW b t w' v (duMk1 l) ∧ Span b t w w' :=
  (markDusG 1 (by omega) (by omega) b t v l hT w H.out.1).mono fun e w' hh => by
    obtain ⟨rfl, h1, h2⟩ := hh
    obtain ⟨a, c, rfl, hc⟩ := H.out.2
    refine ⟨rfl, ⟨h1, a, c, by rw [duMk1_length], by rw [duMk1_length]; exact hc⟩, Span.of_turn h2 fun k o hh => ?_⟩
    have := SlIn.in H.out.1 (k := k) (o := o)
    rw [ducells_length] at this
    exact this hh
theorem heldDuW (v : Value) (l : List Du) (w : World) (hT : l.length ≤ 1048576) (H : Hid (DusV w v (duMk1 l))) :
    Calls Try.prog 22 #[v, .int .i64 1] w fun e w' => e = .returned (.int .i64 (1 + 2 * (l.length : Int))) ∧ Below w.heap.size w w' := by
  obtain ⟨a, c, rfl, k, _⟩ := H.out
  rw [duMk1_length]
  exact (heldDusF 1 (by omega) (by omega) a c l hT w k).mono fun e w' hh => ⟨hh.1, by rw [hh.2]; exact Below.refl _ _⟩
end Go.Proofs.Ytdoijemkbjkeeaa
