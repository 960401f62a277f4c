import Derived.RowKit3
import Derived.Below
import Derived.Test.YtgimalimfmoilaaDuPlain
import Derived.WalkKit
import Derived.Test.YtgimalimfmoilaaBoxed
/-
  All blocks but a list's own are as they were. By the verifier.
-/
namespace Go.Proofs.Ytgimalimfmoilaa
open Go.RowKit

/-- All blocks but a list's own are as they were. -/
structure Oth (v : Value) (w w' : World) : Prop where
  size : w.heap.size ≤ w'.heap.size
  block : ∀ k, v.ownBlock ≠ some k → k < w.heap.size → w'.heap[k]? = w.heap[k]?
theorem Oth.refl (v : Value) (w : World) : Oth v w w := ⟨Nat.le_refl _, fun _ _ _ => rfl⟩
theorem Oth.trans {v : Value} {x y z : World} (h : Oth v x y) (g : Oth v y z) : Oth v x z := ⟨Nat.le_trans h.size g.size, fun k h1 h2 => (g.block k h1 (Nat.lt_of_lt_of_le h2 h.size)).trans (h.block k h1 h2)⟩
theorem Oth.set {g n c : Nat} {x y : World} {o : Nat} {u : Value} (h : Oth (.slice (some ⟨g, 0, none⟩) n c) x y) : Oth (.slice (some ⟨g, 0, none⟩) n c) x (y.setCell ⟨g, o, none⟩ u) :=
  h.trans ⟨by simp [World.setCell], fun k hk _ => Below.heap_setCell _ _ _ _ (by intro e; exact hk (by rw [e]; rfl))⟩
end Go.Proofs.Ytgimalimfmoilaa

/-
  What the laws do to see whose memory a list of records (Due) is: numbers put into it and looked for again. By the verifier, by program.
-/
namespace Go.Proofs.Ytgimalimfmoilaa
open Go.RowKit

def duMk (i : Nat) : Du := ⟨1 + 2 * (i : Int), 1 + 2 * (i : Int) + 1⟩
def duMks (L : List Du) (j : Nat) : List Du := (List.range j).map duMk ++ L.drop j
theorem duMks_length (L : List Du) (j : Nat) (h : j ≤ L.length) : (duMks L j).length = L.length := by simp [duMks]; omega
theorem duMks_zero (L : List Du) : duMks L 0 = L := by simp [duMks]
theorem duMks_step (L : List Du) (j : Nat) (h : j < L.length) : (duMks L j).set j (duMk j) = duMks L (j + 1) := by
  unfold duMks
  rw [List.set_append_right _ _ (by simp), List.range_succ, List.map_append]
  simp
  rw [List.drop_eq_getElem_cons h]
  rfl
theorem duMks_end (L : List Du) (j : Nat) (hj : j < L.length) : duAt (duMks L L.length) j = duMk j := by
  have : j < L.length := hj
  simp [duMks, duAt, this]
set_option maxHeartbeats 6400000 in
set_option maxRecDepth 100000 in
theorem markDus (base : Nat) (a : Option Addr) (cap : Nat) (T : List Du) (hT : T.length ≤ 1048576) (w : World) (H : Hid (DuRow base w (.slice a T.length cap) T)) :
    Calls Try.prog 17 #[.slice a T.length cap, .int .i64 1] w fun e w' => e = .returned (.int .i64 (1 + 2 * (T.length : Int))) ∧ DuRow base w' (.slice a T.length cap) (duMks T T.length) ∧ Below base w w' ∧ Oth (.slice a T.length cap) w w' := by
  obtain ⟨len, hlen⟩ : ∃ n, T.length = n := ⟨_, rfl⟩
  have H : Hid (w.ownsRow base 33 2 (.slice a len cap) len (ducells T)) := by
    have h := H.out
    unfold DuRow at h
    rw [hlen] at h
    exact h
  rw [hlen] at hT ⊢
  have Hlen : Hid (T.length = len) := hlen
  clear hlen
  go_enter Try.func17, Try.ntmps17
  go_wp2
  go_loopw [1, 5] (fun kk i wr => ∃ (j : Nat) (kv : Int), j ≤ len ∧ i = .int .i64 j ∧ kk = .int .i64 kv ∧ kv = 1 + 2 * (j : Int) ∧ Hid (wr.ownsRow base 33 2 (.slice a len cap) len (ducells (duMks T j)) ∧ Below base w wr ∧ Oth (.slice a len cap) w wr)) (fun _ i _ => len - (intOf i).toNat)
  case atStart => exact ⟨0, 1, Nat.zero_le _, rfl, rfl, by simp, by rw [duMks_zero]; exact H.out, Below.refl _ _, Oth.refl _ _⟩
  case round =>
    obtain ⟨j, kv, hj, rfl, rfl, hkv, H2⟩ := hrel
    have Hkv : Hid (kv = 1 + 2 * (j : Int)) := hkv
    have k0 : 0 ≤ kv := by omega
    have k1 : kv ≤ 2097153 := by omega
    by_cases hlt : j < len
    · obtain ⟨g, ha⟩ : ∃ g, a = some ⟨g, 0, none⟩ := by
        rcases H2.out.1.2 with ⟨e, _⟩ | ⟨g, cap', cur, e, _⟩
        · cases e; omega
        · cases e; exact ⟨g, rfl⟩
      subst ha
      have hput := DuRow.put (l := duMks T j) H2.out.1 j (duMk j)
      rw [duMks_step T j (by rw [Hlen.out]; exact hlt)] at hput
      have em : duMk j = ⟨kv, kv + 1⟩ := by
        rw [hkv]
        unfold duMk
        rfl
      rw [em] at hput
      have hblk := (World.ownsRow.lt H2.out.1 g rfl).1
      have ex : ∀ q, q < len * 2 → ∃ v, wr.cell? ⟨g, q, none⟩ = some v := by
        intro q hq
        rw [H2.out.1.cellAt q hq]
        exact ⟨_, List.getElem?_eq_getElem (by rw [ducells_length, duMks_length T j (by rw [Hlen.out]; omega), Hlen.out]; exact hq)⟩
      obtain ⟨y0, hy0⟩ := ex (j * 2) (by omega)
      obtain ⟨y1, hy1⟩ := ex (j * 2 + 1) (by omega)
      have z0 := H2.out.1.frozenAt (j * 2)
      have z1 := H2.out.1.frozenAt (j * 2 + 1)
      have H3 : Hid (_ ∧ Below base w ((wr.setCell ⟨g, j * 2, none⟩ (.int .i64 (kv))).setCell ⟨g, j * 2 + 1, none⟩ (.int .i64 (kv + 1))) ∧ Oth (.slice (some ⟨g, 0, none⟩) len cap) w ((wr.setCell ⟨g, j * 2, none⟩ (.int .i64 (kv))).setCell ⟨g, j * 2 + 1, none⟩ (.int .i64 (kv + 1)))) := ⟨hput, (H2.out.2.1.setCell hblk _).setCell hblk _, H2.out.2.2.set.set⟩
      clear hput hblk ex hkv em
      go_wp2
      go_roundw
      case rel => exact ⟨j + 1, kv + 2, by omega, by go_num, by go_num, by rw [Hkv.out]; push_cast; omega, H3⟩
      case measure => simp [intOf]; omega
    · obtain rfl : j = len := by omega
      go_wp2
      go_ret
      refine ⟨by rw [← Hkv.out]; rfl, ?_, H2.out.2⟩
      have h := H2.out.1
      unfold DuRow
      rw [duMks_length T _ (by rw [Hlen.out]; omega), Hlen.out]
      exact h
end Go.Proofs.Ytgimalimfmoilaa

/-
  The numbers that were put into a list of records (Due), looked for again. By the verifier, by program.
-/
namespace Go.Proofs.Ytgimalimfmoilaa
open Go.RowKit

set_option maxHeartbeats 3200000 in
set_option maxRecDepth 100000 in
theorem heldDus (a : Option Addr) (cap : Nat) (T : List Du) (hT : T.length ≤ 1048576) (w : World) (H : Hid (DusAt w a (duMks T T.length))) :
    Calls Try.prog 18 #[.slice a T.length cap, .int .i64 1] w fun e w' => e = .returned (.int .i64 (1 + 2 * (T.length : Int))) ∧ w' = w := by
  have Hc : Hid (∀ j, j < T.length → ∃ b off, a = some ⟨b, off, none⟩ ∧ ∀ kv : Int, kv = 1 + 2 * (j : Int) → w.cell? ⟨b, off + j * 2, none⟩ = some (.int .i64 (kv)) ∧ w.cell? ⟨b, off + j * 2 + 1, none⟩ = some (.int .i64 (kv + 1))) := by
    show ∀ j, j < T.length → _
    intro j hj
    obtain ⟨b, off, e, _, c0, c1⟩ := H.out j (by rw [duMks_length T _ (Nat.le_refl _)]; exact hj)
    rw [duMks_end T j hj] at c0 c1
    refine ⟨b, off, e, fun kv hkv => ?_⟩
    subst hkv
    exact ⟨c0, c1⟩
  generalize T.length = len at hT Hc ⊢
  clear H
  go_enter Try.func18, Try.ntmps18
  go_wp2
  go_loop [1, 5] (fun kk i => ∃ (j : Nat) (kv : Int), j ≤ len ∧ i = .int .i64 j ∧ kk = .int .i64 kv ∧ kv = 1 + 2 * (j : Int)) (fun _ i => len - (intOf i).toNat)
  case atStart => exact ⟨0, 1, Nat.zero_le _, rfl, rfl, by simp⟩
  case round =>
    obtain ⟨j, kv, hj, rfl, rfl, hkv⟩ := hrel
    have Hkv : Hid (kv = 1 + 2 * (j : Int)) := hkv
    have k0 : 0 ≤ kv := by omega
    have k1 : kv ≤ 2097153 := by omega
    by_cases hlt : j < len
    · obtain ⟨b, off, ha, hc⟩ := Hc.out j hlt
      obtain ⟨c0, c1⟩ := hc kv hkv
      subst ha
      clear hkv hc
      go_wp2
      go_round
      case rel => exact ⟨j + 1, kv + 2, by omega, by go_num, by go_num, by rw [Hkv.out]; push_cast; omega⟩
      case measure => simp [intOf]; omega
    · obtain rfl : j = len := by omega
      clear hkv
      go_wp2
      go_ret
      exact ⟨by rw [← Hkv.out]; rfl, rfl⟩
end Go.Proofs.Ytgimalimfmoilaa

/-
  What lies while the exact law of HeapTake is walked: lists of the call's own, each with a due in a variable behind it. By the verifier.
-/
namespace Go.Proofs.Ytgimalimfmoilaa
open Go.RowKit

/-- A list of the call's own and a due in a variable behind it. -/
structure Htk (s b B : Nat) (v : Value) (X : List Du) (d : Du) (W : World) : Prop where
  row : DuRow b W v X
  box : Boxed W B #[.int .i64 d.time, .int .i64 d.id] 33
  own : ∀ k, v.ownBlock = some k → k < B
  sb : s ≤ b
  bB : b ≤ B
section
variable {s b B c : Nat} {v u : Value} {X : List Du} {d : Du} {W W' : World}
theorem Htk.low (h : Htk s b B v X d W) (g : Below c W W') (hc : B < c) : Htk s b B v X d W' := ⟨h.row.below (fun k hk => Nat.lt_trans (h.own k hk) hc) g, h.box.below hc g, h.own, h.sb, h.bB⟩
theorem Htk.below (h : Htk s b B v X d W) (g : Below W.heap.size W W') : Htk s b B v X d W' := h.low g h.box.under
theorem Htk.other (h : Htk s b B v X d W) (o : Oth u W W') (hk : ∀ k, u.ownBlock = some k → k < b) : Htk s b B v X d W' := by
  have h1 := h.bB
  refine ⟨h.row.carry fun k e hlt => o.block k (fun q => ?_) hlt, ?_, h.own, h.sb, h.bB⟩
  · have q1 := hk k q
    have q2 := (h.row.lt k e).1
    omega
  · unfold Boxed
    rw [o.block B (fun q => by have q1 := hk B q; omega) h.box.under]
    exact h.box
theorem Htk.new {n : Nat} (h : DuRow b W v X) (hs : s ≤ b) (hb : b ≤ W.heap.size) (hn : n = W.heap.size) : Htk s b n v X d (W.alloc (.cells #[.int .i64 d.time, .int .i64 d.id] 33)) := by
  subst hn
  exact ⟨h.below (fun k hk => (h.lt k hk).2) ((Below.refl _ _).alloc (Nat.le_refl _) _), Boxed.new _ _ _, fun k hk => (h.lt k hk).2, hs, hb⟩
theorem Htk.c0 (h : Htk s b B v X d W) : W.cell? ⟨B, 0, none⟩ = some (.int .i64 d.time) := h.box.cell 0 rfl
theorem Htk.c1 (h : Htk s b B v X d W) : W.cell? ⟨B, 1, none⟩ = some (.int .i64 d.id) := h.box.cell 1 rfl
end
/-- Behind both calls. -/
structure Ht2 (w : World) (l X : List Du) (d : Du) (g3 len b0 B0 m n B2 : Nat) (v8 v11 : Value) (W : World) : Prop where
  bel : Below w.heap.size w W
  h0 : Htk w.heap.size b0 B0 v8 X d W
  arg : DuRow m W (.slice (some ⟨g3, 0, none⟩) len len) l
  h2 : Htk w.heap.size n B2 v11 X d W
  om : B0 < m
  mn : m ≤ n
  gn : g3 < n
/-- Behind the argument's marks. -/
structure Ht3 (w : World) (X : List Du) (d : Du) (b0 B0 n B2 : Nat) (v8 v11 : Value) (W : World) : Prop where
  bel : Below w.heap.size w W
  h0 : Htk w.heap.size b0 B0 v8 X d W
  h2 : Htk w.heap.size n B2 v11 X d W
  on : B0 < n
/-- Behind the answer's marks. -/
structure Ht4 (w : World) (X Y : List Du) (d : Du) (b0 B0 n : Nat) (v8 v11 : Value) (W : World) : Prop where
  bel : Below w.heap.size w W
  h0 : Htk w.heap.size b0 B0 v8 X d W
  row : DuRow n W v11 Y
section
variable {w : World} {l X Y : List Du} {d : Du} {g3 len b0 B0 m n B2 : Nat} {v8 v11 : Value} {W W' : World}
theorem Ht2.below (h : Ht2 w l X d g3 len b0 B0 m n B2 v8 v11 W) (g : Below W.heap.size W W') : Ht2 w l X d g3 len b0 B0 m n B2 v8 v11 W' := ⟨h.bel.trans (g.mono h.bel.size), h.h0.below g, h.arg.below (fun k hk => (h.arg.lt k hk).2) g, h.h2.below g, h.om, h.mn, h.gn⟩
theorem Ht2.mark (h : Ht2 w l X d g3 len b0 B0 m n B2 v8 v11 W) (g : Below m W W') (o : Oth (.slice (some ⟨g3, 0, none⟩) len len) W W') : Ht3 w X d b0 B0 n B2 v8 v11 W' := by
  have s1 := h.h0.sb
  have s2 := h.h0.bB
  have s3 := h.om
  have s4 := h.gn
  refine ⟨h.bel.trans (g.mono (by omega)), h.h0.low g h.om, h.h2.other o fun k hk => ?_, by have := h.mn; omega⟩
  have e1 : g3 = k := by simpa [Value.ownBlock] using hk
  omega
theorem Ht3.below (h : Ht3 w X d b0 B0 n B2 v8 v11 W) (g : Below W.heap.size W W') : Ht3 w X d b0 B0 n B2 v8 v11 W' := ⟨h.bel.trans (g.mono h.bel.size), h.h0.below g, h.h2.below g, h.on⟩
theorem Ht3.mark (h : Ht3 w X d b0 B0 n B2 v8 v11 W) (g : Below n W W') (r : DuRow n W' v11 Y) : Ht4 w X Y d b0 B0 n v8 v11 W' := ⟨h.bel.trans (g.mono (h.h2.sb)), h.h0.low g h.on, r⟩
theorem Ht4.below (h : Ht4 w X Y d b0 B0 n v8 v11 W) (g : Below W.heap.size W W') : Ht4 w X Y d b0 B0 n v8 v11 W' := ⟨h.bel.trans (g.mono h.bel.size), h.h0.below g, h.row.below (fun k hk => (h.row.lt k hk).2) g⟩
end
end Go.Proofs.Ytgimalimfmoilaa
