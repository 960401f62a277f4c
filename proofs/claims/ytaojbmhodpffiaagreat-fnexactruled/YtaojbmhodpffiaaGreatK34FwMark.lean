import Derived.Test.YtaojbmhodpffiaaGreatK8GtSpot
import Derived.RegionTactic
import Derived.WalkKit
import Derived.Test.YtaojbmhodpffiaaGreatK2NumIn
import Derived.Test.YtaojbmhodpffiaaGreatK10Quiet
import Derived.RowKit3
import Derived.Below
import Derived.Test.YtaojbmhodpffiaaGreatK16Nums
import Derived.Test.YtaojbmhodpffiaaGreatK3IntRow
import Derived.Test.YtaojbmhodpffiaaGreatK0SlIn
import Derived.Test.YtaojbmhodpffiaaGreatK4FsPlain
import Derived.Test.YtaojbmhodpffiaaGreatK5RwPlain
/-
  The walk of the laws' copy of a record (Route). By the verifier, by program.
-/
namespace Go.Proofs.YtaojbmhodpffiaaGreat
open Go.RowKit

set_option maxHeartbeats 1600000 in
theorem toRt (r : Rt) (w : World) :
    Calls Tryz.prog 75 #[r.val] w fun e w' => e = .returned r.val ∧ w' = ((w.alloc (.cells r.cells.toArray 118)).alloc (.cells r.cells.toArray 116)).alloc (.cells r.cells.toArray 116) := by
  unfold Rt.val Rt.cells
  obtain ⟨v0, v1, v2⟩ := r
  simp only []
  go_enter Tryz.func75, Tryz.ntmps75
  go_wp2
  refine bodyPost_ret (v := .agg #[.int .i64 v0, .int .i64 v1, .int .i64 v2]) (by simp [results, Tryz.results75, go_sem]) rfl ⟨rfl, rfl⟩
theorem toRtB (r : Rt) (w : World) :
    Calls Tryz.prog 75 #[r.val] w fun e w' => e = .returned r.val ∧ Below w.heap.size w w' :=
  (toRt r w).mono fun _ _ h => ⟨h.1, by
    rw [h.2]
    exact (((Below.refl _ w).alloc (Nat.le_refl _) _).alloc (by simp) _).alloc (by simp; omega) _⟩
end Go.Proofs.YtaojbmhodpffiaaGreat

/-
  The walk of the laws' comparison of records (Route), where both hold the same. By the verifier, by program.
-/
namespace Go.Proofs.YtaojbmhodpffiaaGreat
open Go.RowKit

set_option maxHeartbeats 1600000 in
theorem eqRt (r : Rt) (w : World) :
    Calls Tryz.prog 81 #[r.val, r.val] w fun e w' => e = .returned (.bool true) ∧ Below w.heap.size w w' := by
  unfold Rt.val
  obtain ⟨v0, v1, v2⟩ := r
  simp only []
  go_enter Tryz.func81, Tryz.ntmps81
  go_wp2
  go_ret
  exact ⟨rfl, ((Below.refl _ w).alloc (Nat.le_refl _) _).alloc (by simp) _⟩
end Go.Proofs.YtaojbmhodpffiaaGreat

/-
  The walks of the laws' copies of lists of records (Route), of their sizes, and of their comparisons where both hold the same. By the verifier, by program.
-/
namespace Go.Proofs.YtaojbmhodpffiaaGreat
open Go.RowKit

set_option maxHeartbeats 3200000 in
set_option maxRecDepth 100000 in
theorem eqRts (a1 a2 : Option Addr) (cap1 cap2 : Nat) (l : List Rt) (w : World) (hT : l.length ≤ 1048576) (h1 : Hid (RtsAt w a1 l)) (h2 : Hid (RtsAt w a2 l)) :
    Calls Tryz.prog 21 #[.slice a1 l.length cap1, .slice a2 l.length cap2] w fun e w' => e = .returned (.bool true) ∧ Below w.heap.size w w' := by
  obtain ⟨len, hlen⟩ : ∃ n, l.length = n := ⟨_, rfl⟩
  rw [hlen] at hT ⊢
  have Hlen : Hid (l.length = len) := hlen
  clear hlen
  go_enter Tryz.func21, Tryz.ntmps21
  go_wp2
  go_loopw [5] (fun i wr => ∃ k : Nat, k ≤ len ∧ i = .int .i64 k ∧ Hid (Below w.heap.size w wr)) (fun i _ => len - (intOf i).toNat)
  case atStart => exact ⟨0, Nat.zero_le _, rfl, Below.refl _ _⟩
  case round =>
    obtain ⟨k, hk, rfl, hb⟩ := hrel
    by_cases hlt : k < len
    · have R1 : Hid (RtsAt wr a1 l) := h1.out.below hb.out
      have R2 : Hid (RtsAt wr a2 l) := h2.out.below hb.out
      obtain ⟨b1, o1, ha1, -⟩ := R1.out k (by rw [Hlen.out]; exact hlt)
      obtain ⟨b2, o2, ha2, -⟩ := R2.out k (by rw [Hlen.out]; exact hlt)
      subst ha1; subst ha2
      have F1 := fun p : BelW wr.heap.size wr => (R1.out.below p.h).cells (k := k) (by rw [Hlen.out]; exact hlt)
      have F2 := fun p : BelW wr.heap.size wr => (R2.out.below p.h).cells (k := k) (by rw [Hlen.out]; exact hlt)
      have E := fun w => eqRt (rtAt l k) w
      unfold Rt.val at E
      generalize rtAt l k = r at F1 F2 E
      have f1_0 := fun p => (F1 p).1
      have f1_1 := fun p => (F1 p).2.1
      have f1_2 := fun p => (F1 p).2.2
      have f2_0 := fun p => (F2 p).1
      have f2_1 := fun p => (F2 p).2.1
      have f2_2 := fun p => (F2 p).2.2
      clear F1 F2
      have hlt' : (k : Int) < (len : Int) := by omega
      go_wp2
      haveI : Nonempty (BelW wr.heap.size wr) := ⟨⟨wr, Below.refl _ _⟩⟩
      refine region_below wr.heap.size (by kernel_rfl) (by kernel_rfl) ?_
      repeat (quiet_step ((go_at_call 81; refine quiet_below (Nat.le_refl _) (E _))))
      refine wpQuiet_nil ?_
      intro wq hx
      have hq := BelW.out hx
      have B : Hid (Below w.heap.size w wq) := hb.out.trans (hq.mono hb.out.size)
      clear hx hq f1_0 f1_1 f1_2 f2_0 f2_1 f2_2
      go_wp2
      go_roundw
      case rel => exact ⟨k + 1, by omega, by go_num, B⟩
      case measure => simp [intOf]; omega
    · go_wp2
      go_ret
      exact ⟨rfl, hb.out⟩

set_option maxHeartbeats 3200000 in
set_option maxRecDepth 100000 in
theorem toRts (a : Option Addr) (cap : Nat) (l : List Rt) (w : World) (hT : l.length ≤ 1048576) (h : Hid (RtsAt w a l)) :
    Calls Tryz.prog 18 #[.slice a l.length cap] w fun e w' => ∃ g, e = .returned (.slice (some ⟨g, 0, none⟩) l.length l.length) ∧ RtRow w.heap.size w' (.slice (some ⟨g, 0, none⟩) l.length l.length) l ∧ Below w.heap.size w w' := by
  obtain ⟨i0, hi, hz0, hz1, hz2⟩ := info_parts rtInfo
  obtain ⟨len, hlen⟩ : ∃ n, l.length = n := ⟨_, rfl⟩
  unfold RtRow
  rw [hlen] at hT ⊢
  have Hlen : Hid (l.length = len) := hlen
  clear hlen
  have hmk : ∀ wx, (Instr.makeSlice 40 (.int .i64 (len : Int)) (.int .i64 (len : Int))).run Tryz.prog wx = .ok (.slice (some ⟨wx.heap.size, 0, none⟩) len len) (wx.alloc (.cells (madeCells #[.int .i64 0, .int .i64 0, .int .i64 0] (len * 3)) 116)) := by
    intro wx
    have := run_make (P := Tryz.prog) wx 40 116 i0 (.agg #[.int .i64 0, .int .i64 0, .int .i64 0]) Tryz.underlying40 hi hz0 .i64 .i64 len len (by omega) (by omega) (by rw [hz2]; omega) (by omega)
    rw [this, hz1]; simp [Value.cells]
  have H0 : Hid ((w.alloc (.cells (madeCells #[.int .i64 0, .int .i64 0, .int .i64 0] (len * 3)) 116)).ownsRow w.heap.size 116 3 (.slice (some ⟨w.heap.size, 0, none⟩) len len) len (rtcells (l.take 0 ++ List.replicate (len - 0) ⟨0, 0, 0⟩))) := by
    have := World.ownsRow_lit (size := 3) (e := 116) (base := w.heap.size) w (madeCells #[.int .i64 0, .int .i64 0, .int .i64 0] (len * 3)) len (Nat.le_refl _) (by unfold maxLen; omega) (by rw [size_madeCells])
    rw [rtMade] at this
    show World.ownsRow _ _ _ _ _ _ _
    simpa using this
  clear hi hz0 hz1 hz2
  go_enter Tryz.func18, Tryz.ntmps18
  go_wp2
  go_loopw [4] (fun i wr => ∃ k : Nat, k ≤ len ∧ i = .int .i64 k ∧ Hid (wr.ownsRow w.heap.size 116 3 (.slice (some ⟨w.heap.size, 0, none⟩) len len) len (rtcells (l.take k ++ List.replicate (len - k) ⟨0, 0, 0⟩)) ∧ Below w.heap.size w wr)) (fun i _ => len - (intOf i).toNat)
  case atStart => exact ⟨0, Nat.zero_le _, rfl, H0.out, (Below.refl _ _).alloc (Nat.le_refl _) _⟩
  case round =>
    clear H0 hmk
    obtain ⟨k, hk, rfl, H1⟩ := hrel
    by_cases hlt : k < len
    · have R : Hid (RtsAt wr a l) := h.out.below H1.out.2
      obtain ⟨b1, o1, ha1, hb1, -⟩ := R.out k (by rw [Hlen.out]; exact hlt)
      subst ha1
      obtain ⟨c0, c1, c2⟩ := R.out.cells (k := k) (by rw [Hlen.out]; exact hlt)
      have hts := rtTakeSet l len k Hlen.out hlt
      have T := fun w => toRtB (rtAt l k) w
      unfold Rt.val at T
      generalize rtAt l k = r at c0 c1 c2 hts T
      have Hts : Hid _ := hts
      clear hts
      go_wp2_with fail
      refine (T _).mono ?_
      rintro e w2 ⟨rfl, b2⟩
      have hsz : w.heap.size < wr.heap.size := (World.ownsRow.lt H1.out.1 _ rfl).2
      have H2 : Hid (w2.ownsRow w.heap.size 116 3 (.slice (some ⟨w.heap.size, 0, none⟩) len len) len (rtcells (l.take k ++ List.replicate (len - k) ⟨0, 0, 0⟩)) ∧ Below w.heap.size w w2) := by
        refine ⟨?_, H1.out.2.trans (b2.mono H1.out.2.size)⟩
        have hh := H1.out.1
        refine ⟨hh.1, hh.2.imp id ?_⟩
        rintro ⟨g0, cp, cur, h1, h2, h3, h4⟩
        cases h1
        exact ⟨_, _, cur, rfl, h2, by rw [b2.block _ hsz]; exact h3, h4⟩
      have hL : (rtcells (l.take k ++ List.replicate (len - k) ⟨0, 0, 0⟩)).length = len * 3 := by
        rw [rtcells_length]; have := Hlen.out; simp; omega
      have ex : ∀ j, j < len * 3 → ∃ v, w2.cell? ⟨w.heap.size, j, none⟩ = some v := by
        intro j hj
        rw [H2.out.1.cellAt j hj]
        exact ⟨_, List.getElem?_eq_getElem (by omega)⟩
      obtain ⟨y0, hy0⟩ := ex (k * 3) (by omega)
      obtain ⟨y1, hy1⟩ := ex (k * 3 + 1) (by omega)
      obtain ⟨y2, hy2⟩ := ex (k * 3 + 2) (by omega)
      have z0 := H2.out.1.frozenAt (k * 3)
      have z1 := H2.out.1.frozenAt (k * 3 + 1)
      have z2 := H2.out.1.frozenAt (k * 3 + 2)
      have H3 : Hid (_ ∧ Below w.heap.size w (((w2.setCell ⟨w.heap.size, k * 3, none⟩ (.int .i64 r.net)).setCell ⟨w.heap.size, k * 3 + 1, none⟩ (.int .i64 r.bits)).setCell ⟨w.heap.size, k * 3 + 2, none⟩ (.int .i64 r.hop))) := ⟨RtRow.put H2.out.1 k r, ((H2.out.2.setCell (Nat.le_refl _) _).setCell (Nat.le_refl _) _).setCell (Nat.le_refl _) _⟩
      clear b2 hL ex H1 R H2
      go_wp2
      go_roundw
      case rel => exact ⟨k + 1, by omega, by go_num, by rw [← Hts.out]; exact H3.out⟩
      case measure => simp [intOf]; omega
    · obtain rfl : k = len := by omega
      go_wp2
      go_ret
      refine ⟨_, rfl, ?_, H1.out.2⟩
      have hh := H1.out.1
      rw [Nat.sub_self, List.take_of_length_le (by rw [Hlen.out]; omega)] at hh
      simpa using hh

theorem szRts (L : Int) (h0 : 0 ≤ L) (h1 : L ≤ 1048576) (a : Option Addr) (cap len : Nat) (w : World) (hl : (len : Int) ≤ 9223372036854775807) :
    Calls Tryz.prog 15 #[.slice a len cap, .int .i64 L] w fun e w' => e = .returned (.int .i64 (if L - len < 0 then -1 else L - len)) ∧ w' = w := by
  by_cases h : L - len < 0
  · rw [if_pos h]
    go_enter Tryz.func15, Tryz.ntmps15
    go_wp2
    go_ret
    exact ⟨rfl, rfl⟩
  · rw [if_neg h]
    go_enter Tryz.func15, Tryz.ntmps15
    go_wp2
    go_ret
    exact ⟨rfl, rfl⟩
end Go.Proofs.YtaojbmhodpffiaaGreat

/-
  All blocks but a list's own are as they were. By the verifier.
-/
namespace Go.Proofs.YtaojbmhodpffiaaGreat
open Go.RowKit

/-- All blocks but a list's own are as they were. -/
structure Oth (v : Value) (w w' : World) : Prop where
  size : w.heap.size ≤ w'.heap.size
  block : ∀ k, v.ownBlock ≠ some k → k < w.heap.size → w'.heap[k]? = w.heap[k]?
theorem Oth.refl (v : Value) (w : World) : Oth v w w := ⟨Nat.le_refl _, fun _ _ _ => rfl⟩
theorem Oth.trans {v : Value} {x y z : World} (h : Oth v x y) (g : Oth v y z) : Oth v x z := ⟨Nat.le_trans h.size g.size, fun k h1 h2 => (g.block k h1 (Nat.lt_of_lt_of_le h2 h.size)).trans (h.block k h1 h2)⟩
theorem Oth.set {g n c : Nat} {x y : World} {o : Nat} {u : Value} (h : Oth (.slice (some ⟨g, 0, none⟩) n c) x y) : Oth (.slice (some ⟨g, 0, none⟩) n c) x (y.setCell ⟨g, o, none⟩ u) :=
  h.trans ⟨by simp [World.setCell], fun k hk _ => Below.heap_setCell _ _ _ _ (by intro e; exact hk (by rw [e]; rfl))⟩
end Go.Proofs.YtaojbmhodpffiaaGreat

/-
  What the laws do to see whose memory a list of records (Route) is: numbers put into it and looked for again. By the verifier, by program.
-/
namespace Go.Proofs.YtaojbmhodpffiaaGreat
open Go.RowKit

def rtMkF (s : Int) (i : Nat) : Rt := ⟨s + 3 * (i : Int), s + 3 * (i : Int) + 1, s + 3 * (i : Int) + 2⟩
def rtMksF (s : Int) (L : List Rt) (j : Nat) : List Rt := (List.range j).map (rtMkF s) ++ L.drop j
theorem rtMksF_length (s : Int) (L : List Rt) (j : Nat) (h : j ≤ L.length) : (rtMksF s L j).length = L.length := by simp [rtMksF]; omega
theorem rtMksF_zero (s : Int) (L : List Rt) : rtMksF s L 0 = L := by simp [rtMksF]
theorem rtMksF_step (s : Int) (L : List Rt) (j : Nat) (h : j < L.length) : (rtMksF s L j).set j (rtMkF s j) = rtMksF s L (j + 1) := by
  unfold rtMksF
  rw [List.set_append_right _ _ (by simp), List.range_succ, List.map_append]
  simp
  rw [List.drop_eq_getElem_cons h]
  rfl
theorem rtMksF_end (s : Int) (L : List Rt) (j : Nat) (hj : j < L.length) : rtAt (rtMksF s L L.length) j = rtMkF s j := by
  have : j < L.length := hj
  simp [rtMksF, rtAt, this]
end Go.Proofs.YtaojbmhodpffiaaGreat

/-
  The numbers that were put into a list of records (Route), looked for again. By the verifier, by program.
-/
namespace Go.Proofs.YtaojbmhodpffiaaGreat
open Go.RowKit

set_option maxHeartbeats 3200000 in
set_option maxRecDepth 100000 in
theorem heldRtsF (s : Int) (s0 : 0 ≤ s) (s1 : s ≤ 1099511627776) (a : Option Addr) (cap : Nat) (T : List Rt) (hT : T.length ≤ 1048576) (w : World) (H : Hid (RtsAt w a (rtMksF s T T.length))) :
    Calls Tryz.prog 67 #[.slice a T.length cap, .int .i64 s] w fun e w' => e = .returned (.int .i64 (s + 3 * (T.length : Int))) ∧ w' = w := by
  have Hc : Hid (∀ j, j < T.length → ∃ b off, a = some ⟨b, off, none⟩ ∧ ∀ kv : Int, kv = s + 3 * (j : Int) → w.cell? ⟨b, off + j * 3, none⟩ = some (.int .i64 (kv)) ∧ w.cell? ⟨b, off + j * 3 + 1, none⟩ = some (.int .i64 (kv + 1)) ∧ w.cell? ⟨b, off + j * 3 + 2, none⟩ = some (.int .i64 (kv + 2))) := by
    show ∀ j, j < T.length → _
    intro j hj
    obtain ⟨b, off, e, _, c0, c1, c2⟩ := H.out j (by rw [rtMksF_length s T _ (Nat.le_refl _)]; exact hj)
    rw [rtMksF_end s T j hj] at c0 c1 c2
    refine ⟨b, off, e, fun kv hkv => ?_⟩
    subst hkv
    exact ⟨c0, c1, c2⟩
  generalize T.length = len at hT Hc ⊢
  clear H
  go_enter Tryz.func67, Tryz.ntmps67
  go_wp2
  go_loop [1, 5] (fun kk i => ∃ (j : Nat) (kv : Int), j ≤ len ∧ i = .int .i64 j ∧ kk = .int .i64 kv ∧ kv = s + 3 * (j : Int)) (fun _ i => len - (intOf i).toNat)
  case atStart => exact ⟨0, s, Nat.zero_le _, rfl, rfl, by simp⟩
  case round =>
    obtain ⟨j, kv, hj, rfl, rfl, hkv⟩ := hrel
    have Hkv : Hid (kv = s + 3 * (j : Int)) := hkv
    have k0 : 0 ≤ kv := by omega
    have k1 : kv ≤ 1099514773504 := by omega
    by_cases hlt : j < len
    · obtain ⟨b, off, ha, hc⟩ := Hc.out j hlt
      obtain ⟨c0, c1, c2⟩ := hc kv hkv
      subst ha
      clear hkv hc
      go_wp2
      go_round
      case rel => exact ⟨j + 1, kv + 3, by omega, by go_num, by go_num, by rw [Hkv.out]; push_cast; omega⟩
      case measure => simp [intOf]; omega
    · obtain rfl : j = len := by omega
      clear hkv
      go_wp2
      go_ret
      exact ⟨by rw [← Hkv.out]; rfl, rfl⟩
end Go.Proofs.YtaojbmhodpffiaaGreat

/-
  Numbers put into lists of records (Route) that lie wherever. By the verifier, by program.
-/
namespace Go.Proofs.YtaojbmhodpffiaaGreat
open Go.RowKit

set_option maxHeartbeats 6400000 in
set_option maxRecDepth 100000 in
theorem markRtsG (s : Int) (s0 : 0 ≤ s) (s1 : s ≤ 1099511627776) (b t : Nat) (v : Value) (T : List Rt) (hT : T.length ≤ 1048576) (w : World) (H : Hid (RtIn b t w v T)) :
    Calls Tryz.prog 23 #[v, .int .i64 s] w fun e w' => e = .returned (.int .i64 (s + 3 * (T.length : Int))) ∧ RtIn b t w' v (rtMksF s T T.length) ∧ Turn (Hits v (T.length * 3)) w w' := by
  obtain ⟨a, cap, rfl⟩ := SlIn.shape H.out
  obtain ⟨len, hlen⟩ : ∃ n, T.length = n := ⟨_, rfl⟩
  have hcl := rtcells_length T
  have H : Hid (SlIn b t w (.slice a len cap) len (rtcells T)) := by
    have h := H.out
    unfold RtIn at h
    rw [hlen] at h
    exact h
  rw [hlen] at hT ⊢
  have Hlen : Hid (T.length = len) := hlen
  have Hcl : Hid (∀ j, j ≤ len → (rtcells (rtMksF s T j)).length = len * 3) := fun j hj => by rw [rtcells_length, rtMksF_length s T j (by rw [Hlen.out]; exact hj), Hlen.out]
  clear hlen hcl
  go_enter Tryz.func23, Tryz.ntmps23
  go_wp2
  go_loopw [1, 5] (fun kk i wr => ∃ (j : Nat) (kv : Int), j ≤ len ∧ i = .int .i64 j ∧ kk = .int .i64 kv ∧ kv = s + 3 * (j : Int) ∧ Hid (SlIn b t wr (.slice a len cap) len (rtcells (rtMksF s T j)) ∧ Turn (Hits (.slice a len cap) (len * 3)) w wr)) (fun _ i _ => len - (intOf i).toNat)
  case atStart => exact ⟨0, s, Nat.zero_le _, rfl, rfl, by simp, by rw [rtMksF_zero]; exact H.out, Turn.refl _ _⟩
  case round =>
    obtain ⟨j, kv, hj, rfl, rfl, hkv, H2⟩ := hrel
    have Hkv : Hid (kv = s + 3 * (j : Int)) := hkv
    have k0 : 0 ≤ kv := by omega
    have k1 : kv ≤ 1099514773504 := by omega
    by_cases hlt : j < len
    · have hcl := Hcl.out j hj
      obtain ⟨g, off, ha, h1, h2, h3⟩ := SlIn.some H2.out.1 (by intro e; rw [e] at hcl; simp at hcl; omega)
      subst ha
      have em : rtMkF s j = ⟨kv, kv + 1, kv + 1 + 1⟩ := by
        rw [hkv]
        unfold rtMkF
        simp only [Rt.mk.injEq]
        refine ⟨by first | trivial | omega, by first | trivial | omega, by first | trivial | omega⟩
      have hput := H2.out.1
      have hput := SlIn.put hput (j * 3) (by omega) (.int .i64 (kv))
      have hput := SlIn.put hput (j * 3 + 1) (by simp only [List.length_set]; omega) (.int .i64 (kv + 1))
      have hput := SlIn.put hput (j * 3 + 2) (by simp only [List.length_set]; omega) (.int .i64 (kv + 1 + 1))
      have hset := rtcells_set (rtMksF s T j) j (rtMkF s j)
      rw [rtMksF_step s T j (by rw [Hlen.out]; exact hlt)] at hset
      simp only [em] at hset
      rw [hset] at hput
      have z0 := (SlIn.cells H2.out.1 (j * 3) (by omega)).2
      have y0 := (SlIn.cells H2.out.1 (j * 3) (by omega)).1
      have z1 := (SlIn.cells H2.out.1 (j * 3 + 1) (by omega)).2
      have y1 := (SlIn.cells H2.out.1 (j * 3 + 1) (by omega)).1
      have z2 := (SlIn.cells H2.out.1 (j * 3 + 2) (by omega)).2
      have y2 := (SlIn.cells H2.out.1 (j * 3 + 2) (by omega)).1
      simp only [← Nat.add_assoc] at hput z0 y0 z1 y1 z2 y2
      have H3 : Hid (SlIn b t (((wr.setCell ⟨g, off + j * 3, none⟩ (.int .i64 (kv))).setCell ⟨g, off + j * 3 + 1, none⟩ (.int .i64 (kv + 1))).setCell ⟨g, off + j * 3 + 2, none⟩ (.int .i64 (kv + 1 + 1))) (.slice (some ⟨g, off, none⟩) len cap) len (rtcells (rtMksF s T (j + 1))) ∧ Turn (Hits (.slice (some ⟨g, off, none⟩) len cap) (len * 3)) w (((wr.setCell ⟨g, off + j * 3, none⟩ (.int .i64 (kv))).setCell ⟨g, off + j * 3 + 1, none⟩ (.int .i64 (kv + 1))).setCell ⟨g, off + j * 3 + 2, none⟩ (.int .i64 (kv + 1 + 1)))) := by
        refine ⟨hput, H2.out.2.trans ?_⟩
        refine (Turn.trans (Turn.trans ((turn_set _ _ _ _).wide ?_) ((turn_set _ _ _ _).wide ?_)) ((turn_set _ _ _ _).wide ?_))
        all_goals (rintro k o ⟨rfl, rfl⟩; exact ⟨off, len, cap, rfl, by omega, by omega⟩)
      generalize (rtcells (rtMksF s T j))[j * 3]?.getD undef = u0 at y0; generalize (rtcells (rtMksF s T j))[j * 3 + 1]?.getD undef = u1 at y1; generalize (rtcells (rtMksF s T j))[j * 3 + 2]?.getD undef = u2 at y2
      clear hput hset hkv em hcl h1 h2 h3
      go_wp2
      go_roundw
      case rel => exact ⟨j + 1, kv + 3, by omega, by go_num, by go_num, by rw [Hkv.out]; push_cast; omega, H3⟩
      case measure => simp [intOf]; omega
    · obtain rfl : j = len := by omega
      go_wp2
      go_ret
      refine ⟨by rw [← Hkv.out]; rfl, ?_, H2.out.2⟩
      have h := H2.out.1
      unfold RtIn
      rw [rtMksF_length s T _ (by rw [Hlen.out]; omega), Hlen.out]
      exact h
end Go.Proofs.YtaojbmhodpffiaaGreat

/-
  Lists (Route) as values with memory: what the laws' own functions do on them, numbers from any one on. By the verifier, by program.
-/
namespace Go.Proofs.YtaojbmhodpffiaaGreat
open Go.RowKit

def rtMkS (s : Int) (l : List Rt) : List Rt := rtMksF s l l.length
theorem rtMkS_length (s : Int) (l : List Rt) : (rtMkS s l).length = l.length := rtMksF_length s l l.length (Nat.le_refl _)
theorem toRtW (a : Option Addr) (c : Nat) (l : List Rt) (w : World) (hT : l.length ≤ 1048576) (h : Hid (RtsAt w a l)) :
    Calls Tryz.prog 18 #[.slice a l.length c] w fun e w' => (∃ v, e = .returned v ∧ RtsW w.heap.size w'.heap.size w' v l) ∧ Below w.heap.size w w' :=
  (toRts a c l w hT h).mono fun e w' hh => by
    obtain ⟨g, rfl, hr, hb⟩ := hh
    exact ⟨⟨_, rfl, RtsW.of_row hr⟩, hb⟩
theorem eqRtW (v1 v2 : Value) (l : List Rt) (w : World) (hT : l.length ≤ 1048576) (h1 : Hid (RtsV w v1 l)) (h2 : Hid (RtsV w v2 l)) :
    Calls Tryz.prog 21 #[v1, v2] w fun e w' => e = .returned (.bool true) ∧ Below w.heap.size w w' := by
  obtain ⟨a1, c1, rfl, k1, _⟩ := h1.out
  obtain ⟨a2, c2, rfl, k2, _⟩ := h2.out
  exact eqRts a1 a2 c1 c2 l w hT k1 k2
theorem markRtS (s : Int) (s0 : 0 ≤ s) (s1 : s ≤ 549755813888) (b t : Nat) (v : Value) (l : List Rt) (w : World) (hT : l.length ≤ 1048576) (H : Hid (RtsW b t w v l)) :
    Calls Tryz.prog 23 #[v, .int .i64 s] w fun e w' => e = .returned (.int .i64 (s + 3 * (l.length : Int))) ∧ RtsW b t w' v (rtMkS s l) ∧ Span b t w w' :=
  (markRtsG s (by omega) (by omega) b t v l hT w H.out.1).mono fun e w' hh => by
    obtain ⟨rfl, h1, h2⟩ := hh
    obtain ⟨a, c, rfl, hc⟩ := H.out.2
    refine ⟨rfl, ⟨h1, a, c, by rw [rtMkS_length], by rw [rtMkS_length]; exact hc⟩, Span.of_turn h2 fun k o hh => ?_⟩
    have := SlIn.in H.out.1 (k := k) (o := o)
    rw [rtcells_length] at this
    exact this hh
theorem heldRtS (s : Int) (s0 : 0 ≤ s) (s1 : s ≤ 549755813888) (v : Value) (l : List Rt) (w : World) (hT : l.length ≤ 1048576) (H : Hid (RtsV w v (rtMkS s l))) :
    Calls Tryz.prog 67 #[v, .int .i64 s] w fun e w' => e = .returned (.int .i64 (s + 3 * (l.length : Int))) ∧ Below w.heap.size w w' := by
  obtain ⟨a, c, rfl, k, _⟩ := H.out
  rw [rtMkS_length]
  exact (heldRtsF s (by omega) (by omega) a c l hT w k).mono fun e w' hh => ⟨hh.1, by rw [hh.2]; exact Below.refl _ _⟩
end Go.Proofs.YtaojbmhodpffiaaGreat

/-
  The walk of the laws' copy of a record (Rule). By the verifier, by program.
-/
namespace Go.Proofs.YtaojbmhodpffiaaGreat
open Go.RowKit

set_option maxHeartbeats 1600000 in
theorem toRu (r : Ru) (w : World) :
    Calls Tryz.prog 76 #[r.val] w fun e w' => e = .returned r.val ∧ w' = ((w.alloc (.cells r.cells.toArray 122)).alloc (.cells r.cells.toArray 120)).alloc (.cells r.cells.toArray 120) := by
  unfold Ru.val Ru.cells
  obtain ⟨v0, v1, v2, v3, v4, v5, v6, v7, v8, v9⟩ := r
  simp only []
  go_enter Tryz.func76, Tryz.ntmps76
  go_wp2
  refine bodyPost_ret (v := .agg #[.int .i64 v0, .int .i64 v1, .int .i64 v2, .int .i64 v3, .int .i64 v4, .int .i64 v5, .int .i64 v6, .int .i64 v7, .int .i64 v8, .int .i64 v9]) (by simp [results, Tryz.results76, go_sem]) rfl ⟨rfl, rfl⟩
theorem toRuB (r : Ru) (w : World) :
    Calls Tryz.prog 76 #[r.val] w fun e w' => e = .returned r.val ∧ Below w.heap.size w w' :=
  (toRu r w).mono fun _ _ h => ⟨h.1, by
    rw [h.2]
    exact (((Below.refl _ w).alloc (Nat.le_refl _) _).alloc (by simp) _).alloc (by simp; omega) _⟩
end Go.Proofs.YtaojbmhodpffiaaGreat

/-
  The walk of the laws' comparison of records (Rule), where both hold the same. By the verifier, by program.
-/
namespace Go.Proofs.YtaojbmhodpffiaaGreat
open Go.RowKit

set_option maxHeartbeats 1600000 in
theorem eqRu (r : Ru) (w : World) :
    Calls Tryz.prog 82 #[r.val, r.val] w fun e w' => e = .returned (.bool true) ∧ Below w.heap.size w w' := by
  unfold Ru.val
  obtain ⟨v0, v1, v2, v3, v4, v5, v6, v7, v8, v9⟩ := r
  simp only []
  go_enter Tryz.func82, Tryz.ntmps82
  go_wp2
  go_ret
  exact ⟨rfl, ((Below.refl _ w).alloc (Nat.le_refl _) _).alloc (by simp) _⟩
end Go.Proofs.YtaojbmhodpffiaaGreat

/-
  The walks of the laws' copies of lists of records (Rule), of their sizes, and of their comparisons where both hold the same. By the verifier, by program.
-/
namespace Go.Proofs.YtaojbmhodpffiaaGreat
open Go.RowKit

set_option maxHeartbeats 3200000 in
set_option maxRecDepth 100000 in
theorem eqRus (a1 a2 : Option Addr) (cap1 cap2 : Nat) (l : List Ru) (w : World) (hT : l.length ≤ 1048576) (h1 : Hid (RusAt w a1 l)) (h2 : Hid (RusAt w a2 l)) :
    Calls Tryz.prog 22 #[.slice a1 l.length cap1, .slice a2 l.length cap2] w fun e w' => e = .returned (.bool true) ∧ Below w.heap.size w w' := by
  obtain ⟨len, hlen⟩ : ∃ n, l.length = n := ⟨_, rfl⟩
  rw [hlen] at hT ⊢
  have Hlen : Hid (l.length = len) := hlen
  clear hlen
  go_enter Tryz.func22, Tryz.ntmps22
  go_wp2
  go_loopw [5] (fun i wr => ∃ k : Nat, k ≤ len ∧ i = .int .i64 k ∧ Hid (Below w.heap.size w wr)) (fun i _ => len - (intOf i).toNat)
  case atStart => exact ⟨0, Nat.zero_le _, rfl, Below.refl _ _⟩
  case round =>
    obtain ⟨k, hk, rfl, hb⟩ := hrel
    by_cases hlt : k < len
    · have R1 : Hid (RusAt wr a1 l) := h1.out.below hb.out
      have R2 : Hid (RusAt wr a2 l) := h2.out.below hb.out
      obtain ⟨b1, o1, ha1, -⟩ := R1.out k (by rw [Hlen.out]; exact hlt)
      obtain ⟨b2, o2, ha2, -⟩ := R2.out k (by rw [Hlen.out]; exact hlt)
      subst ha1; subst ha2
      have F1 := fun p : BelW wr.heap.size wr => (R1.out.below p.h).cells (k := k) (by rw [Hlen.out]; exact hlt)
      have F2 := fun p : BelW wr.heap.size wr => (R2.out.below p.h).cells (k := k) (by rw [Hlen.out]; exact hlt)
      have E := fun w => eqRu (ruAt l k) w
      unfold Ru.val at E
      generalize ruAt l k = r at F1 F2 E
      have f1_0 := fun p => (F1 p).1
      have f1_1 := fun p => (F1 p).2.1
      have f1_2 := fun p => (F1 p).2.2.1
      have f1_3 := fun p => (F1 p).2.2.2.1
      have f1_4 := fun p => (F1 p).2.2.2.2.1
      have f1_5 := fun p => (F1 p).2.2.2.2.2.1
      have f1_6 := fun p => (F1 p).2.2.2.2.2.2.1
      have f1_7 := fun p => (F1 p).2.2.2.2.2.2.2.1
      have f1_8 := fun p => (F1 p).2.2.2.2.2.2.2.2.1
      have f1_9 := fun p => (F1 p).2.2.2.2.2.2.2.2.2
      have f2_0 := fun p => (F2 p).1
      have f2_1 := fun p => (F2 p).2.1
      have f2_2 := fun p => (F2 p).2.2.1
      have f2_3 := fun p => (F2 p).2.2.2.1
      have f2_4 := fun p => (F2 p).2.2.2.2.1
      have f2_5 := fun p => (F2 p).2.2.2.2.2.1
      have f2_6 := fun p => (F2 p).2.2.2.2.2.2.1
      have f2_7 := fun p => (F2 p).2.2.2.2.2.2.2.1
      have f2_8 := fun p => (F2 p).2.2.2.2.2.2.2.2.1
      have f2_9 := fun p => (F2 p).2.2.2.2.2.2.2.2.2
      clear F1 F2
      have hlt' : (k : Int) < (len : Int) := by omega
      go_wp2
      haveI : Nonempty (BelW wr.heap.size wr) := ⟨⟨wr, Below.refl _ _⟩⟩
      refine region_below wr.heap.size (by kernel_rfl) (by kernel_rfl) ?_
      repeat (quiet_step ((go_at_call 82; refine quiet_below (Nat.le_refl _) (E _))))
      refine wpQuiet_nil ?_
      intro wq hx
      have hq := BelW.out hx
      have B : Hid (Below w.heap.size w wq) := hb.out.trans (hq.mono hb.out.size)
      clear hx hq f1_0 f1_1 f1_2 f1_3 f1_4 f1_5 f1_6 f1_7 f1_8 f1_9 f2_0 f2_1 f2_2 f2_3 f2_4 f2_5 f2_6 f2_7 f2_8 f2_9
      go_wp2
      go_roundw
      case rel => exact ⟨k + 1, by omega, by go_num, B⟩
      case measure => simp [intOf]; omega
    · go_wp2
      go_ret
      exact ⟨rfl, hb.out⟩

set_option maxHeartbeats 3200000 in
set_option maxRecDepth 100000 in
theorem toRus (a : Option Addr) (cap : Nat) (l : List Ru) (w : World) (hT : l.length ≤ 1048576) (h : Hid (RusAt w a l)) :
    Calls Tryz.prog 19 #[.slice a l.length cap] w fun e w' => ∃ g, e = .returned (.slice (some ⟨g, 0, none⟩) l.length l.length) ∧ RuRow w.heap.size w' (.slice (some ⟨g, 0, none⟩) l.length l.length) l ∧ Below w.heap.size w w' := by
  obtain ⟨i0, hi, hz0, hz1, hz2⟩ := info_parts ruInfo
  obtain ⟨len, hlen⟩ : ∃ n, l.length = n := ⟨_, rfl⟩
  unfold RuRow
  rw [hlen] at hT ⊢
  have Hlen : Hid (l.length = len) := hlen
  clear hlen
  have hmk : ∀ wx, (Instr.makeSlice 41 (.int .i64 (len : Int)) (.int .i64 (len : Int))).run Tryz.prog wx = .ok (.slice (some ⟨wx.heap.size, 0, none⟩) len len) (wx.alloc (.cells (madeCells #[.int .i64 0, .int .i64 0, .int .i64 0, .int .i64 0, .int .i64 0, .int .i64 0, .int .i64 0, .int .i64 0, .int .i64 0, .int .i64 0] (len * 10)) 120)) := by
    intro wx
    have := run_make (P := Tryz.prog) wx 41 120 i0 (.agg #[.int .i64 0, .int .i64 0, .int .i64 0, .int .i64 0, .int .i64 0, .int .i64 0, .int .i64 0, .int .i64 0, .int .i64 0, .int .i64 0]) Tryz.underlying41 hi hz0 .i64 .i64 len len (by omega) (by omega) (by rw [hz2]; omega) (by omega)
    rw [this, hz1]; simp [Value.cells]
  have H0 : Hid ((w.alloc (.cells (madeCells #[.int .i64 0, .int .i64 0, .int .i64 0, .int .i64 0, .int .i64 0, .int .i64 0, .int .i64 0, .int .i64 0, .int .i64 0, .int .i64 0] (len * 10)) 120)).ownsRow w.heap.size 120 10 (.slice (some ⟨w.heap.size, 0, none⟩) len len) len (rucells (l.take 0 ++ List.replicate (len - 0) ⟨0, 0, 0, 0, 0, 0, 0, 0, 0, 0⟩))) := by
    have := World.ownsRow_lit (size := 10) (e := 120) (base := w.heap.size) w (madeCells #[.int .i64 0, .int .i64 0, .int .i64 0, .int .i64 0, .int .i64 0, .int .i64 0, .int .i64 0, .int .i64 0, .int .i64 0, .int .i64 0] (len * 10)) len (Nat.le_refl _) (by unfold maxLen; omega) (by rw [size_madeCells])
    rw [ruMade] at this
    show World.ownsRow _ _ _ _ _ _ _
    simpa using this
  clear hi hz0 hz1 hz2
  go_enter Tryz.func19, Tryz.ntmps19
  go_wp2
  go_loopw [4] (fun i wr => ∃ k : Nat, k ≤ len ∧ i = .int .i64 k ∧ Hid (wr.ownsRow w.heap.size 120 10 (.slice (some ⟨w.heap.size, 0, none⟩) len len) len (rucells (l.take k ++ List.replicate (len - k) ⟨0, 0, 0, 0, 0, 0, 0, 0, 0, 0⟩)) ∧ Below w.heap.size w wr)) (fun i _ => len - (intOf i).toNat)
  case atStart => exact ⟨0, Nat.zero_le _, rfl, H0.out, (Below.refl _ _).alloc (Nat.le_refl _) _⟩
  case round =>
    clear H0 hmk
    obtain ⟨k, hk, rfl, H1⟩ := hrel
    by_cases hlt : k < len
    · have R : Hid (RusAt wr a l) := h.out.below H1.out.2
      obtain ⟨b1, o1, ha1, hb1, -⟩ := R.out k (by rw [Hlen.out]; exact hlt)
      subst ha1
      obtain ⟨c0, c1, c2, c3, c4, c5, c6, c7, c8, c9⟩ := R.out.cells (k := k) (by rw [Hlen.out]; exact hlt)
      have hts := ruTakeSet l len k Hlen.out hlt
      have T := fun w => toRuB (ruAt l k) w
      unfold Ru.val at T
      generalize ruAt l k = r at c0 c1 c2 c3 c4 c5 c6 c7 c8 c9 hts T
      have Hts : Hid _ := hts
      clear hts
      go_wp2_with fail
      refine (T _).mono ?_
      rintro e w2 ⟨rfl, b2⟩
      have hsz : w.heap.size < wr.heap.size := (World.ownsRow.lt H1.out.1 _ rfl).2
      have H2 : Hid (w2.ownsRow w.heap.size 120 10 (.slice (some ⟨w.heap.size, 0, none⟩) len len) len (rucells (l.take k ++ List.replicate (len - k) ⟨0, 0, 0, 0, 0, 0, 0, 0, 0, 0⟩)) ∧ Below w.heap.size w w2) := by
        refine ⟨?_, H1.out.2.trans (b2.mono H1.out.2.size)⟩
        have hh := H1.out.1
        refine ⟨hh.1, hh.2.imp id ?_⟩
        rintro ⟨g0, cp, cur, h1, h2, h3, h4⟩
        cases h1
        exact ⟨_, _, cur, rfl, h2, by rw [b2.block _ hsz]; exact h3, h4⟩
      have hL : (rucells (l.take k ++ List.replicate (len - k) ⟨0, 0, 0, 0, 0, 0, 0, 0, 0, 0⟩)).length = len * 10 := by
        rw [rucells_length]; have := Hlen.out; simp; omega
      have ex : ∀ j, j < len * 10 → ∃ v, w2.cell? ⟨w.heap.size, j, none⟩ = some v := by
        intro j hj
        rw [H2.out.1.cellAt j hj]
        exact ⟨_, List.getElem?_eq_getElem (by omega)⟩
      obtain ⟨y0, hy0⟩ := ex (k * 10) (by omega)
      obtain ⟨y1, hy1⟩ := ex (k * 10 + 1) (by omega)
      obtain ⟨y2, hy2⟩ := ex (k * 10 + 2) (by omega)
      obtain ⟨y3, hy3⟩ := ex (k * 10 + 3) (by omega)
      obtain ⟨y4, hy4⟩ := ex (k * 10 + 4) (by omega)
      obtain ⟨y5, hy5⟩ := ex (k * 10 + 5) (by omega)
      obtain ⟨y6, hy6⟩ := ex (k * 10 + 6) (by omega)
      obtain ⟨y7, hy7⟩ := ex (k * 10 + 7) (by omega)
      obtain ⟨y8, hy8⟩ := ex (k * 10 + 8) (by omega)
      obtain ⟨y9, hy9⟩ := ex (k * 10 + 9) (by omega)
      have z0 := H2.out.1.frozenAt (k * 10)
      have z1 := H2.out.1.frozenAt (k * 10 + 1)
      have z2 := H2.out.1.frozenAt (k * 10 + 2)
      have z3 := H2.out.1.frozenAt (k * 10 + 3)
      have z4 := H2.out.1.frozenAt (k * 10 + 4)
      have z5 := H2.out.1.frozenAt (k * 10 + 5)
      have z6 := H2.out.1.frozenAt (k * 10 + 6)
      have z7 := H2.out.1.frozenAt (k * 10 + 7)
      have z8 := H2.out.1.frozenAt (k * 10 + 8)
      have z9 := H2.out.1.frozenAt (k * 10 + 9)
      have H3 : Hid (_ ∧ Below w.heap.size w ((((((((((w2.setCell ⟨w.heap.size, k * 10, none⟩ (.int .i64 r.id)).setCell ⟨w.heap.size, k * 10 + 1, none⟩ (.int .i64 r.prio)).setCell ⟨w.heap.size, k * 10 + 2, none⟩ (.int .i64 r.snet)).setCell ⟨w.heap.size, k * 10 + 3, none⟩ (.int .i64 r.sbits)).setCell ⟨w.heap.size, k * 10 + 4, none⟩ (.int .i64 r.dnet)).setCell ⟨w.heap.size, k * 10 + 5, none⟩ (.int .i64 r.dbits)).setCell ⟨w.heap.size, k * 10 + 6, none⟩ (.int .i64 r.proto)).setCell ⟨w.heap.size, k * 10 + 7, none⟩ (.int .i64 r.low)).setCell ⟨w.heap.size, k * 10 + 8, none⟩ (.int .i64 r.high)).setCell ⟨w.heap.size, k * 10 + 9, none⟩ (.int .i64 r.cls))) := ⟨RuRow.put H2.out.1 k r, (((((((((H2.out.2.setCell (Nat.le_refl _) _).setCell (Nat.le_refl _) _).setCell (Nat.le_refl _) _).setCell (Nat.le_refl _) _).setCell (Nat.le_refl _) _).setCell (Nat.le_refl _) _).setCell (Nat.le_refl _) _).setCell (Nat.le_refl _) _).setCell (Nat.le_refl _) _).setCell (Nat.le_refl _) _⟩
      clear b2 hL ex H1 R H2
      go_wp2
      go_roundw
      case rel => exact ⟨k + 1, by omega, by go_num, by rw [← Hts.out]; exact H3.out⟩
      case measure => simp [intOf]; omega
    · obtain rfl : k = len := by omega
      go_wp2
      go_ret
      refine ⟨_, rfl, ?_, H1.out.2⟩
      have hh := H1.out.1
      rw [Nat.sub_self, List.take_of_length_le (by rw [Hlen.out]; omega)] at hh
      simpa using hh

theorem szRus (L : Int) (h0 : 0 ≤ L) (h1 : L ≤ 1048576) (a : Option Addr) (cap len : Nat) (w : World) (hl : (len : Int) ≤ 9223372036854775807) :
    Calls Tryz.prog 16 #[.slice a len cap, .int .i64 L] w fun e w' => e = .returned (.int .i64 (if L - len < 0 then -1 else L - len)) ∧ w' = w := by
  by_cases h : L - len < 0
  · rw [if_pos h]
    go_enter Tryz.func16, Tryz.ntmps16
    go_wp2
    go_ret
    exact ⟨rfl, rfl⟩
  · rw [if_neg h]
    go_enter Tryz.func16, Tryz.ntmps16
    go_wp2
    go_ret
    exact ⟨rfl, rfl⟩
end Go.Proofs.YtaojbmhodpffiaaGreat

/-
  What the laws do to see whose memory a list of records (Rule) is: numbers put into it and looked for again. By the verifier, by program.
-/
namespace Go.Proofs.YtaojbmhodpffiaaGreat
open Go.RowKit

def ruMkF (s : Int) (i : Nat) : Ru := ⟨s + 10 * (i : Int), s + 10 * (i : Int) + 1, s + 10 * (i : Int) + 2, s + 10 * (i : Int) + 3, s + 10 * (i : Int) + 4, s + 10 * (i : Int) + 5, s + 10 * (i : Int) + 6, s + 10 * (i : Int) + 7, s + 10 * (i : Int) + 8, s + 10 * (i : Int) + 9⟩
def ruMksF (s : Int) (L : List Ru) (j : Nat) : List Ru := (List.range j).map (ruMkF s) ++ L.drop j
theorem ruMksF_length (s : Int) (L : List Ru) (j : Nat) (h : j ≤ L.length) : (ruMksF s L j).length = L.length := by simp [ruMksF]; omega
theorem ruMksF_zero (s : Int) (L : List Ru) : ruMksF s L 0 = L := by simp [ruMksF]
theorem ruMksF_step (s : Int) (L : List Ru) (j : Nat) (h : j < L.length) : (ruMksF s L j).set j (ruMkF s j) = ruMksF s L (j + 1) := by
  unfold ruMksF
  rw [List.set_append_right _ _ (by simp), List.range_succ, List.map_append]
  simp
  rw [List.drop_eq_getElem_cons h]
  rfl
theorem ruMksF_end (s : Int) (L : List Ru) (j : Nat) (hj : j < L.length) : ruAt (ruMksF s L L.length) j = ruMkF s j := by
  have : j < L.length := hj
  simp [ruMksF, ruAt, this]
end Go.Proofs.YtaojbmhodpffiaaGreat

/-
  The numbers that were put into a list of records (Rule), looked for again. By the verifier, by program.
-/
namespace Go.Proofs.YtaojbmhodpffiaaGreat
open Go.RowKit

set_option maxHeartbeats 3200000 in
set_option maxRecDepth 100000 in
theorem heldRusF (s : Int) (s0 : 0 ≤ s) (s1 : s ≤ 1099511627776) (a : Option Addr) (cap : Nat) (T : List Ru) (hT : T.length ≤ 1048576) (w : World) (H : Hid (RusAt w a (ruMksF s T T.length))) :
    Calls Tryz.prog 68 #[.slice a T.length cap, .int .i64 s] w fun e w' => e = .returned (.int .i64 (s + 10 * (T.length : Int))) ∧ w' = w := by
  have Hc : Hid (∀ j, j < T.length → ∃ b off, a = some ⟨b, off, none⟩ ∧ ∀ kv : Int, kv = s + 10 * (j : Int) → w.cell? ⟨b, off + j * 10, none⟩ = some (.int .i64 (kv)) ∧ w.cell? ⟨b, off + j * 10 + 1, none⟩ = some (.int .i64 (kv + 1)) ∧ w.cell? ⟨b, off + j * 10 + 2, none⟩ = some (.int .i64 (kv + 2)) ∧ w.cell? ⟨b, off + j * 10 + 3, none⟩ = some (.int .i64 (kv + 3)) ∧ w.cell? ⟨b, off + j * 10 + 4, none⟩ = some (.int .i64 (kv + 4)) ∧ w.cell? ⟨b, off + j * 10 + 5, none⟩ = some (.int .i64 (kv + 5)) ∧ w.cell? ⟨b, off + j * 10 + 6, none⟩ = some (.int .i64 (kv + 6)) ∧ w.cell? ⟨b, off + j * 10 + 7, none⟩ = some (.int .i64 (kv + 7)) ∧ w.cell? ⟨b, off + j * 10 + 8, none⟩ = some (.int .i64 (kv + 8)) ∧ w.cell? ⟨b, off + j * 10 + 9, none⟩ = some (.int .i64 (kv + 9))) := by
    show ∀ j, j < T.length → _
    intro j hj
    obtain ⟨b, off, e, _, c0, c1, c2, c3, c4, c5, c6, c7, c8, c9⟩ := H.out j (by rw [ruMksF_length s T _ (Nat.le_refl _)]; exact hj)
    rw [ruMksF_end s T j hj] at c0 c1 c2 c3 c4 c5 c6 c7 c8 c9
    refine ⟨b, off, e, fun kv hkv => ?_⟩
    subst hkv
    exact ⟨c0, c1, c2, c3, c4, c5, c6, c7, c8, c9⟩
  generalize T.length = len at hT Hc ⊢
  clear H
  go_enter Tryz.func68, Tryz.ntmps68
  go_wp2
  go_loop [1, 5] (fun kk i => ∃ (j : Nat) (kv : Int), j ≤ len ∧ i = .int .i64 j ∧ kk = .int .i64 kv ∧ kv = s + 10 * (j : Int)) (fun _ i => len - (intOf i).toNat)
  case atStart => exact ⟨0, s, Nat.zero_le _, rfl, rfl, by simp⟩
  case round =>
    obtain ⟨j, kv, hj, rfl, rfl, hkv⟩ := hrel
    have Hkv : Hid (kv = s + 10 * (j : Int)) := hkv
    have k0 : 0 ≤ kv := by omega
    have k1 : kv ≤ 1099522113536 := by omega
    by_cases hlt : j < len
    · obtain ⟨b, off, ha, hc⟩ := Hc.out j hlt
      obtain ⟨c0, c1, c2, c3, c4, c5, c6, c7, c8, c9⟩ := hc kv hkv
      subst ha
      clear hkv hc
      go_wp2
      go_round
      case rel => exact ⟨j + 1, kv + 10, by omega, by go_num, by go_num, by rw [Hkv.out]; push_cast; omega⟩
      case measure => simp [intOf]; omega
    · obtain rfl : j = len := by omega
      clear hkv
      go_wp2
      go_ret
      exact ⟨by rw [← Hkv.out]; rfl, rfl⟩
end Go.Proofs.YtaojbmhodpffiaaGreat

/-
  Numbers put into lists of records (Rule) that lie wherever. By the verifier, by program.
-/
namespace Go.Proofs.YtaojbmhodpffiaaGreat
open Go.RowKit

set_option maxHeartbeats 6400000 in
set_option maxRecDepth 100000 in
theorem markRusG (s : Int) (s0 : 0 ≤ s) (s1 : s ≤ 1099511627776) (b t : Nat) (v : Value) (T : List Ru) (hT : T.length ≤ 1048576) (w : World) (H : Hid (RuIn b t w v T)) :
    Calls Tryz.prog 24 #[v, .int .i64 s] w fun e w' => e = .returned (.int .i64 (s + 10 * (T.length : Int))) ∧ RuIn b t w' v (ruMksF s T T.length) ∧ Turn (Hits v (T.length * 10)) w w' := by
  obtain ⟨a, cap, rfl⟩ := SlIn.shape H.out
  obtain ⟨len, hlen⟩ : ∃ n, T.length = n := ⟨_, rfl⟩
  have hcl := rucells_length T
  have H : Hid (SlIn b t w (.slice a len cap) len (rucells T)) := by
    have h := H.out
    unfold RuIn at h
    rw [hlen] at h
    exact h
  rw [hlen] at hT ⊢
  have Hlen : Hid (T.length = len) := hlen
  have Hcl : Hid (∀ j, j ≤ len → (rucells (ruMksF s T j)).length = len * 10) := fun j hj => by rw [rucells_length, ruMksF_length s T j (by rw [Hlen.out]; exact hj), Hlen.out]
  clear hlen hcl
  go_enter Tryz.func24, Tryz.ntmps24
  go_wp2
  go_loopw [1, 5] (fun kk i wr => ∃ (j : Nat) (kv : Int), j ≤ len ∧ i = .int .i64 j ∧ kk = .int .i64 kv ∧ kv = s + 10 * (j : Int) ∧ Hid (SlIn b t wr (.slice a len cap) len (rucells (ruMksF s T j)) ∧ Turn (Hits (.slice a len cap) (len * 10)) w wr)) (fun _ i _ => len - (intOf i).toNat)
  case atStart => exact ⟨0, s, Nat.zero_le _, rfl, rfl, by simp, by rw [ruMksF_zero]; exact H.out, Turn.refl _ _⟩
  case round =>
    obtain ⟨j, kv, hj, rfl, rfl, hkv, H2⟩ := hrel
    have Hkv : Hid (kv = s + 10 * (j : Int)) := hkv
    have k0 : 0 ≤ kv := by omega
    have k1 : kv ≤ 1099522113536 := by omega
    by_cases hlt : j < len
    · have hcl := Hcl.out j hj
      obtain ⟨g, off, ha, h1, h2, h3⟩ := SlIn.some H2.out.1 (by intro e; rw [e] at hcl; simp at hcl; omega)
      subst ha
      have em : ruMkF s j = ⟨kv, kv + 1, kv + 1 + 1, kv + 1 + 1 + 1, kv + 1 + 1 + 1 + 1, kv + 1 + 1 + 1 + 1 + 1, kv + 1 + 1 + 1 + 1 + 1 + 1, kv + 1 + 1 + 1 + 1 + 1 + 1 + 1, kv + 1 + 1 + 1 + 1 + 1 + 1 + 1 + 1, kv + 1 + 1 + 1 + 1 + 1 + 1 + 1 + 1 + 1⟩ := by
        rw [hkv]
        unfold ruMkF
        simp only [Ru.mk.injEq]
        refine ⟨by first | trivial | omega, by first | trivial | omega, by first | trivial | omega, by first | trivial | omega, by first | trivial | omega, by first | trivial | omega, by first | trivial | omega, by first | trivial | omega, by first | trivial | omega, by first | trivial | omega⟩
      have hput := H2.out.1
      have hput := SlIn.put hput (j * 10) (by omega) (.int .i64 (kv))
      have hput := SlIn.put hput (j * 10 + 1) (by simp only [List.length_set]; omega) (.int .i64 (kv + 1))
      have hput := SlIn.put hput (j * 10 + 2) (by simp only [List.length_set]; omega) (.int .i64 (kv + 1 + 1))
      have hput := SlIn.put hput (j * 10 + 3) (by simp only [List.length_set]; omega) (.int .i64 (kv + 1 + 1 + 1))
      have hput := SlIn.put hput (j * 10 + 4) (by simp only [List.length_set]; omega) (.int .i64 (kv + 1 + 1 + 1 + 1))
      have hput := SlIn.put hput (j * 10 + 5) (by simp only [List.length_set]; omega) (.int .i64 (kv + 1 + 1 + 1 + 1 + 1))
      have hput := SlIn.put hput (j * 10 + 6) (by simp only [List.length_set]; omega) (.int .i64 (kv + 1 + 1 + 1 + 1 + 1 + 1))
      have hput := SlIn.put hput (j * 10 + 7) (by simp only [List.length_set]; omega) (.int .i64 (kv + 1 + 1 + 1 + 1 + 1 + 1 + 1))
      have hput := SlIn.put hput (j * 10 + 8) (by simp only [List.length_set]; omega) (.int .i64 (kv + 1 + 1 + 1 + 1 + 1 + 1 + 1 + 1))
      have hput := SlIn.put hput (j * 10 + 9) (by simp only [List.length_set]; omega) (.int .i64 (kv + 1 + 1 + 1 + 1 + 1 + 1 + 1 + 1 + 1))
      have hset := rucells_set (ruMksF s T j) j (ruMkF s j)
      rw [ruMksF_step s T j (by rw [Hlen.out]; exact hlt)] at hset
      simp only [em] at hset
      rw [hset] at hput
      have z0 := (SlIn.cells H2.out.1 (j * 10) (by omega)).2
      have y0 := (SlIn.cells H2.out.1 (j * 10) (by omega)).1
      have z1 := (SlIn.cells H2.out.1 (j * 10 + 1) (by omega)).2
      have y1 := (SlIn.cells H2.out.1 (j * 10 + 1) (by omega)).1
      have z2 := (SlIn.cells H2.out.1 (j * 10 + 2) (by omega)).2
      have y2 := (SlIn.cells H2.out.1 (j * 10 + 2) (by omega)).1
      have z3 := (SlIn.cells H2.out.1 (j * 10 + 3) (by omega)).2
      have y3 := (SlIn.cells H2.out.1 (j * 10 + 3) (by omega)).1
      have z4 := (SlIn.cells H2.out.1 (j * 10 + 4) (by omega)).2
      have y4 := (SlIn.cells H2.out.1 (j * 10 + 4) (by omega)).1
      have z5 := (SlIn.cells H2.out.1 (j * 10 + 5) (by omega)).2
      have y5 := (SlIn.cells H2.out.1 (j * 10 + 5) (by omega)).1
      have z6 := (SlIn.cells H2.out.1 (j * 10 + 6) (by omega)).2
      have y6 := (SlIn.cells H2.out.1 (j * 10 + 6) (by omega)).1
      have z7 := (SlIn.cells H2.out.1 (j * 10 + 7) (by omega)).2
      have y7 := (SlIn.cells H2.out.1 (j * 10 + 7) (by omega)).1
      have z8 := (SlIn.cells H2.out.1 (j * 10 + 8) (by omega)).2
      have y8 := (SlIn.cells H2.out.1 (j * 10 + 8) (by omega)).1
      have z9 := (SlIn.cells H2.out.1 (j * 10 + 9) (by omega)).2
      have y9 := (SlIn.cells H2.out.1 (j * 10 + 9) (by omega)).1
      simp only [← Nat.add_assoc] at hput z0 y0 z1 y1 z2 y2 z3 y3 z4 y4 z5 y5 z6 y6 z7 y7 z8 y8 z9 y9
      have H3 : Hid (SlIn b t ((((((((((wr.setCell ⟨g, off + j * 10, none⟩ (.int .i64 (kv))).setCell ⟨g, off + j * 10 + 1, none⟩ (.int .i64 (kv + 1))).setCell ⟨g, off + j * 10 + 2, none⟩ (.int .i64 (kv + 1 + 1))).setCell ⟨g, off + j * 10 + 3, none⟩ (.int .i64 (kv + 1 + 1 + 1))).setCell ⟨g, off + j * 10 + 4, none⟩ (.int .i64 (kv + 1 + 1 + 1 + 1))).setCell ⟨g, off + j * 10 + 5, none⟩ (.int .i64 (kv + 1 + 1 + 1 + 1 + 1))).setCell ⟨g, off + j * 10 + 6, none⟩ (.int .i64 (kv + 1 + 1 + 1 + 1 + 1 + 1))).setCell ⟨g, off + j * 10 + 7, none⟩ (.int .i64 (kv + 1 + 1 + 1 + 1 + 1 + 1 + 1))).setCell ⟨g, off + j * 10 + 8, none⟩ (.int .i64 (kv + 1 + 1 + 1 + 1 + 1 + 1 + 1 + 1))).setCell ⟨g, off + j * 10 + 9, none⟩ (.int .i64 (kv + 1 + 1 + 1 + 1 + 1 + 1 + 1 + 1 + 1))) (.slice (some ⟨g, off, none⟩) len cap) len (rucells (ruMksF s T (j + 1))) ∧ Turn (Hits (.slice (some ⟨g, off, none⟩) len cap) (len * 10)) w ((((((((((wr.setCell ⟨g, off + j * 10, none⟩ (.int .i64 (kv))).setCell ⟨g, off + j * 10 + 1, none⟩ (.int .i64 (kv + 1))).setCell ⟨g, off + j * 10 + 2, none⟩ (.int .i64 (kv + 1 + 1))).setCell ⟨g, off + j * 10 + 3, none⟩ (.int .i64 (kv + 1 + 1 + 1))).setCell ⟨g, off + j * 10 + 4, none⟩ (.int .i64 (kv + 1 + 1 + 1 + 1))).setCell ⟨g, off + j * 10 + 5, none⟩ (.int .i64 (kv + 1 + 1 + 1 + 1 + 1))).setCell ⟨g, off + j * 10 + 6, none⟩ (.int .i64 (kv + 1 + 1 + 1 + 1 + 1 + 1))).setCell ⟨g, off + j * 10 + 7, none⟩ (.int .i64 (kv + 1 + 1 + 1 + 1 + 1 + 1 + 1))).setCell ⟨g, off + j * 10 + 8, none⟩ (.int .i64 (kv + 1 + 1 + 1 + 1 + 1 + 1 + 1 + 1))).setCell ⟨g, off + j * 10 + 9, none⟩ (.int .i64 (kv + 1 + 1 + 1 + 1 + 1 + 1 + 1 + 1 + 1)))) := by
        refine ⟨hput, H2.out.2.trans ?_⟩
        refine (Turn.trans (Turn.trans (Turn.trans (Turn.trans (Turn.trans (Turn.trans (Turn.trans (Turn.trans (Turn.trans ((turn_set _ _ _ _).wide ?_) ((turn_set _ _ _ _).wide ?_)) ((turn_set _ _ _ _).wide ?_)) ((turn_set _ _ _ _).wide ?_)) ((turn_set _ _ _ _).wide ?_)) ((turn_set _ _ _ _).wide ?_)) ((turn_set _ _ _ _).wide ?_)) ((turn_set _ _ _ _).wide ?_)) ((turn_set _ _ _ _).wide ?_)) ((turn_set _ _ _ _).wide ?_))
        all_goals (rintro k o ⟨rfl, rfl⟩; exact ⟨off, len, cap, rfl, by omega, by omega⟩)
      generalize (rucells (ruMksF s T j))[j * 10]?.getD undef = u0 at y0; generalize (rucells (ruMksF s T j))[j * 10 + 1]?.getD undef = u1 at y1; generalize (rucells (ruMksF s T j))[j * 10 + 2]?.getD undef = u2 at y2; generalize (rucells (ruMksF s T j))[j * 10 + 3]?.getD undef = u3 at y3; generalize (rucells (ruMksF s T j))[j * 10 + 4]?.getD undef = u4 at y4; generalize (rucells (ruMksF s T j))[j * 10 + 5]?.getD undef = u5 at y5; generalize (rucells (ruMksF s T j))[j * 10 + 6]?.getD undef = u6 at y6; generalize (rucells (ruMksF s T j))[j * 10 + 7]?.getD undef = u7 at y7; generalize (rucells (ruMksF s T j))[j * 10 + 8]?.getD undef = u8 at y8; generalize (rucells (ruMksF s T j))[j * 10 + 9]?.getD undef = u9 at y9
      clear hput hset hkv em hcl h1 h2 h3
      go_wp2
      go_roundw
      case rel => exact ⟨j + 1, kv + 10, by omega, by go_num, by go_num, by rw [Hkv.out]; push_cast; omega, H3⟩
      case measure => simp [intOf]; omega
    · obtain rfl : j = len := by omega
      go_wp2
      go_ret
      refine ⟨by rw [← Hkv.out]; rfl, ?_, H2.out.2⟩
      have h := H2.out.1
      unfold RuIn
      rw [ruMksF_length s T _ (by rw [Hlen.out]; omega), Hlen.out]
      exact h
end Go.Proofs.YtaojbmhodpffiaaGreat

/-
  Lists (Rule) as values with memory: what the laws' own functions do on them, numbers from any one on. By the verifier, by program.
-/
namespace Go.Proofs.YtaojbmhodpffiaaGreat
open Go.RowKit

def ruMkS (s : Int) (l : List Ru) : List Ru := ruMksF s l l.length
theorem ruMkS_length (s : Int) (l : List Ru) : (ruMkS s l).length = l.length := ruMksF_length s l l.length (Nat.le_refl _)
theorem toRuW (a : Option Addr) (c : Nat) (l : List Ru) (w : World) (hT : l.length ≤ 1048576) (h : Hid (RusAt w a l)) :
    Calls Tryz.prog 19 #[.slice a l.length c] w fun e w' => (∃ v, e = .returned v ∧ RusW w.heap.size w'.heap.size w' v l) ∧ Below w.heap.size w w' :=
  (toRus a c l w hT h).mono fun e w' hh => by
    obtain ⟨g, rfl, hr, hb⟩ := hh
    exact ⟨⟨_, rfl, RusW.of_row hr⟩, hb⟩
theorem eqRuW (v1 v2 : Value) (l : List Ru) (w : World) (hT : l.length ≤ 1048576) (h1 : Hid (RusV w v1 l)) (h2 : Hid (RusV w v2 l)) :
    Calls Tryz.prog 22 #[v1, v2] w fun e w' => e = .returned (.bool true) ∧ Below w.heap.size w w' := by
  obtain ⟨a1, c1, rfl, k1, _⟩ := h1.out
  obtain ⟨a2, c2, rfl, k2, _⟩ := h2.out
  exact eqRus a1 a2 c1 c2 l w hT k1 k2
theorem markRuS (s : Int) (s0 : 0 ≤ s) (s1 : s ≤ 549755813888) (b t : Nat) (v : Value) (l : List Ru) (w : World) (hT : l.length ≤ 1048576) (H : Hid (RusW b t w v l)) :
    Calls Tryz.prog 24 #[v, .int .i64 s] w fun e w' => e = .returned (.int .i64 (s + 10 * (l.length : Int))) ∧ RusW b t w' v (ruMkS s l) ∧ Span b t w w' :=
  (markRusG s (by omega) (by omega) b t v l hT w H.out.1).mono fun e w' hh => by
    obtain ⟨rfl, h1, h2⟩ := hh
    obtain ⟨a, c, rfl, hc⟩ := H.out.2
    refine ⟨rfl, ⟨h1, a, c, by rw [ruMkS_length], by rw [ruMkS_length]; exact hc⟩, Span.of_turn h2 fun k o hh => ?_⟩
    have := SlIn.in H.out.1 (k := k) (o := o)
    rw [rucells_length] at this
    exact this hh
theorem heldRuS (s : Int) (s0 : 0 ≤ s) (s1 : s ≤ 549755813888) (v : Value) (l : List Ru) (w : World) (hT : l.length ≤ 1048576) (H : Hid (RusV w v (ruMkS s l))) :
    Calls Tryz.prog 68 #[v, .int .i64 s] w fun e w' => e = .returned (.int .i64 (s + 10 * (l.length : Int))) ∧ Below w.heap.size w w' := by
  obtain ⟨a, c, rfl, k, _⟩ := H.out
  rw [ruMkS_length]
  exact (heldRusF s (by omega) (by omega) a c l hT w k).mono fun e w' hh => ⟨hh.1, by rw [hh.2]; exact Below.refl _ _⟩
end Go.Proofs.YtaojbmhodpffiaaGreat

/-
  What the laws do to see whose memory a list of numbers is: numbers put into it and looked for again. By the verifier.
-/
namespace Go.Proofs.YtaojbmhodpffiaaGreat
open Go.RowKit

/-- The first j marked, the others as they were. -/
def mks (k : Int) (T : List Int) (j : Nat) : List Int := (List.range j).map (fun (i : Nat) => k + (i : Int)) ++ T.drop j
theorem mks_length (k : Int) (T : List Int) (j : Nat) (h : j ≤ T.length) : (mks k T j).length = T.length := by simp [mks]; omega
theorem mks_zero (k : Int) (T : List Int) : mks k T 0 = T := by simp [mks]
theorem mks_step (k : Int) (T : List Int) (j : Nat) (h : j < T.length) : (mks k T j).set j (k + (j : Int)) = mks k T (j + 1) := by
  unfold mks
  rw [List.set_append_right _ _ (by simp), List.range_succ, List.map_append]
  simp
  rw [List.drop_eq_getElem_cons h]
  rfl
theorem mks_end (k : Int) (T : List Int) (j : Nat) (hj : j < T.length) : (mks k T T.length)[j]?.getD 0 = k + (j : Int) := by
  have : j < T.length := hj
  simp [mks, this]

end Go.Proofs.YtaojbmhodpffiaaGreat

/-
  Lists of numbers that lie wherever: read, numbers put in and looked for, from any number on. By the verifier.
-/
namespace Go.Proofs.YtaojbmhodpffiaaGreat
open Go.RowKit

set_option maxHeartbeats 3200000 in
set_option maxRecDepth 100000 in
theorem markIntsG (s : Int) (s0 : 0 ≤ s) (s1 : s ≤ 1099511627776) (b t : Nat) (v : Value) (T : List Int) (hT : T.length ≤ 1048576) (w : World) (H : Hid (IntIn b t w v T)) :
    Calls Tryz.prog 63 #[v, .int .i64 s] w fun e w' => e = .returned (.int .i64 (s + (T.length : Int))) ∧ IntIn b t w' v (mks s T T.length) ∧ Turn (Hits v T.length) w w' := by
  obtain ⟨a, cap, rfl⟩ := SlIn.shape H.out
  obtain ⟨len, hlen⟩ : ∃ n, T.length = n := ⟨_, rfl⟩
  have H : Hid (SlIn b t w (.slice a len cap) len (T.map (Value.int .i64))) := by
    have h := H.out
    unfold IntIn at h
    rw [hlen] at h
    exact h
  rw [hlen] at hT ⊢
  have Hlen : Hid (T.length = len) := hlen
  have Hcl : Hid (∀ j, j ≤ len → ((mks s T j).map (Value.int .i64)).length = len) := fun j hj => by rw [List.length_map, mks_length s T j (by rw [Hlen.out]; exact hj), Hlen.out]
  clear hlen
  go_enter Tryz.func63, Tryz.ntmps63
  go_wp2
  go_loopw [1, 5] (fun kk i wr => ∃ (j : Nat) (kv : Int), j ≤ len ∧ i = .int .i64 j ∧ kk = .int .i64 kv ∧ kv = s + (j : Int) ∧ Hid (SlIn b t wr (.slice a len cap) len ((mks s T j).map (Value.int .i64)) ∧ Turn (Hits (.slice a len cap) len) w wr)) (fun _ i _ => len - (intOf i).toNat)
  case atStart => exact ⟨0, s, Nat.zero_le _, rfl, rfl, by simp, by rw [mks_zero]; exact H.out, Turn.refl _ _⟩
  case round =>
    obtain ⟨j, kv, hj, rfl, rfl, hkv, H2⟩ := hrel
    have Hkv : Hid (kv = s + (j : Int)) := hkv
    have k0 : 0 ≤ kv := by omega
    have k1 : kv ≤ 1099514773504 := by omega
    by_cases hlt : j < len
    · have hcl := Hcl.out j hj
      obtain ⟨g, off, ha, h1, h2, h3⟩ := SlIn.some H2.out.1 (by intro e; rw [e] at hcl; simp at hcl; omega)
      subst ha
      have hput := SlIn.put H2.out.1 j (by omega) (.int .i64 kv)
      have hm : (((mks s T j).map (Value.int .i64)).set j (.int .i64 kv)) = (mks s T (j + 1)).map (Value.int .i64) := by
        rw [← mks_step s T j (by rw [Hlen.out]; exact hlt), List.map_set, hkv]
      rw [hm] at hput
      have z0 := (SlIn.cells H2.out.1 j (by omega)).2
      have y0 := (SlIn.cells H2.out.1 j (by omega)).1
      have H3 : Hid (SlIn b t (wr.setCell ⟨g, off + j, none⟩ (.int .i64 kv)) (.slice (some ⟨g, off, none⟩) len cap) len ((mks s T (j + 1)).map (Value.int .i64)) ∧ Turn (Hits (.slice (some ⟨g, off, none⟩) len cap) len) w (wr.setCell ⟨g, off + j, none⟩ (.int .i64 kv))) := by
        refine ⟨hput, H2.out.2.trans ((turn_set _ _ _ _).wide ?_)⟩
        rintro k o ⟨rfl, rfl⟩
        exact ⟨off, len, cap, rfl, by omega, by omega⟩
      generalize ((mks s T j).map (Value.int .i64))[j]?.getD undef = u0 at y0
      clear hput hm hkv hcl h1 h2 h3
      go_wp2
      go_roundw
      case rel => exact ⟨j + 1, kv + 1, by omega, by go_num, by go_num, by rw [Hkv.out]; push_cast; omega, H3⟩
      case measure => simp [intOf]; omega
    · obtain rfl : j = len := by omega
      go_wp2
      go_ret
      refine ⟨by rw [← Hkv.out]; rfl, ?_, H2.out.2⟩
      have h := H2.out.1
      unfold IntIn
      rw [mks_length s T _ (by rw [Hlen.out]; omega), Hlen.out]
      exact h

set_option maxHeartbeats 1600000 in
theorem heldIntsF (s : Int) (s0 : 0 ≤ s) (s1 : s ≤ 1099511627776) (a : Option Addr) (cap : Nat) (T : List Int) (hT : T.length ≤ 1048576) (w : World) (H : Hid (IntsAt w a (mks s T T.length))) :
    Calls Tryz.prog 70 #[.slice a T.length cap, .int .i64 s] w fun e w' => e = .returned (.int .i64 (s + (T.length : Int))) ∧ w' = w := by
  have Hc : Hid (∀ j, j < T.length → ∃ b off, a = some ⟨b, off, none⟩ ∧ w.cell? ⟨b, off + j, none⟩ = some (.int .i64 (s + (j : Int)))) := by
    show ∀ j, j < T.length → ∃ b off, a = some ⟨b, off, none⟩ ∧ w.cell? ⟨b, off + j, none⟩ = some (.int .i64 (s + (j : Int)))
    intro j hj
    obtain ⟨b, off, e, _, hc⟩ := H.out j (by rw [mks_length s T _ (Nat.le_refl _)]; exact hj)
    rw [mks_end s T j hj] at hc
    exact ⟨b, off, e, hc⟩
  generalize T.length = len at hT Hc ⊢
  clear H
  go_enter Tryz.func70, Tryz.ntmps70
  go_wp2
  go_loop [1, 5] (fun kk i => ∃ (j : Nat) (kv : Int), j ≤ len ∧ i = .int .i64 j ∧ kk = .int .i64 kv ∧ Hid (kv = s + (j : Int)) ∧ 0 ≤ kv ∧ kv ≤ 1099514773504) (fun _ i => len - (intOf i).toNat)
  case atStart => exact ⟨0, s, Nat.zero_le _, rfl, rfl, by show s = s + ((0 : Nat) : Int); simp, s0, by omega⟩
  case round =>
    obtain ⟨j, kv, hj, rfl, rfl, hkv, k0, k1⟩ := hrel
    by_cases hlt : j < len
    · obtain ⟨b, off, ha, hc⟩ := Hc.out j hlt
      subst ha
      rw [← hkv.out] at hc
      have k2 : kv + 1 ≤ 1099514773504 := by have := hkv.out; omega
      go_wp2
      go_round
      case rel => exact ⟨j + 1, kv + 1, by omega, by go_num, by go_num, by show kv + 1 = s + ((j + 1 : Nat) : Int); have := hkv.out; push_cast; omega, by omega, k2⟩
      case measure => simp [intOf]; omega
    · obtain rfl : j = len := by omega
      go_wp2
      go_ret
      exact ⟨by rw [← hkv.out]; rfl, rfl⟩
end Go.Proofs.YtaojbmhodpffiaaGreat

/-
  What the laws do to see whose memory a list of records (Item) is: numbers put into it and looked for again. By the verifier, by program.
-/
namespace Go.Proofs.YtaojbmhodpffiaaGreat
open Go.RowKit

def itMkF (s : Int) (i : Nat) : It := ⟨s + 3 * (i : Int), s + 3 * (i : Int) + 1, s + 3 * (i : Int) + 2⟩
def itMksF (s : Int) (L : List It) (j : Nat) : List It := (List.range j).map (itMkF s) ++ L.drop j
theorem itMksF_length (s : Int) (L : List It) (j : Nat) (h : j ≤ L.length) : (itMksF s L j).length = L.length := by simp [itMksF]; omega
theorem itMksF_zero (s : Int) (L : List It) : itMksF s L 0 = L := by simp [itMksF]
theorem itMksF_step (s : Int) (L : List It) (j : Nat) (h : j < L.length) : (itMksF s L j).set j (itMkF s j) = itMksF s L (j + 1) := by
  unfold itMksF
  rw [List.set_append_right _ _ (by simp), List.range_succ, List.map_append]
  simp
  rw [List.drop_eq_getElem_cons h]
  rfl
theorem itMksF_end (s : Int) (L : List It) (j : Nat) (hj : j < L.length) : itAt (itMksF s L L.length) j = itMkF s j := by
  have : j < L.length := hj
  simp [itMksF, itAt, this]
end Go.Proofs.YtaojbmhodpffiaaGreat

/-
  The numbers that were put into a list of records (Item), looked for again. By the verifier, by program.
-/
namespace Go.Proofs.YtaojbmhodpffiaaGreat
open Go.RowKit

set_option maxHeartbeats 3200000 in
set_option maxRecDepth 100000 in
theorem heldItsF (s : Int) (s0 : 0 ≤ s) (s1 : s ≤ 1099511627776) (a : Option Addr) (cap : Nat) (T : List It) (hT : T.length ≤ 1048576) (w : World) (H : Hid (ItsAt w a (itMksF s T T.length))) :
    Calls Tryz.prog 160 #[.slice a T.length cap, .int .i64 s] w fun e w' => e = .returned (.int .i64 (s + 3 * (T.length : Int))) ∧ w' = w := by
  have Hc : Hid (∀ j, j < T.length → ∃ b off, a = some ⟨b, off, none⟩ ∧ ∀ kv : Int, kv = s + 3 * (j : Int) → w.cell? ⟨b, off + j * 3, none⟩ = some (.int .i64 (kv)) ∧ w.cell? ⟨b, off + j * 3 + 1, none⟩ = some (.int .i64 (kv + 1)) ∧ w.cell? ⟨b, off + j * 3 + 2, none⟩ = some (.int .i64 (kv + 2))) := by
    show ∀ j, j < T.length → _
    intro j hj
    obtain ⟨b, off, e, _, c0, c1, c2⟩ := H.out j (by rw [itMksF_length s T _ (Nat.le_refl _)]; exact hj)
    rw [itMksF_end s T j hj] at c0 c1 c2
    refine ⟨b, off, e, fun kv hkv => ?_⟩
    subst hkv
    exact ⟨c0, c1, c2⟩
  generalize T.length = len at hT Hc ⊢
  clear H
  go_enter Tryz.func160, Tryz.ntmps160
  go_wp2
  go_loop [1, 5] (fun kk i => ∃ (j : Nat) (kv : Int), j ≤ len ∧ i = .int .i64 j ∧ kk = .int .i64 kv ∧ kv = s + 3 * (j : Int)) (fun _ i => len - (intOf i).toNat)
  case atStart => exact ⟨0, s, Nat.zero_le _, rfl, rfl, by simp⟩
  case round =>
    obtain ⟨j, kv, hj, rfl, rfl, hkv⟩ := hrel
    have Hkv : Hid (kv = s + 3 * (j : Int)) := hkv
    have k0 : 0 ≤ kv := by omega
    have k1 : kv ≤ 1099514773504 := by omega
    by_cases hlt : j < len
    · obtain ⟨b, off, ha, hc⟩ := Hc.out j hlt
      obtain ⟨c0, c1, c2⟩ := hc kv hkv
      subst ha
      clear hkv hc
      go_wp2
      go_round
      case rel => exact ⟨j + 1, kv + 3, by omega, by go_num, by go_num, by rw [Hkv.out]; push_cast; omega⟩
      case measure => simp [intOf]; omega
    · obtain rfl : j = len := by omega
      clear hkv
      go_wp2
      go_ret
      exact ⟨by rw [← Hkv.out]; rfl, rfl⟩
end Go.Proofs.YtaojbmhodpffiaaGreat

/-
  What the laws do to see whose memory lists of records with a list (Flow) are: numbers put into them and looked for again. By the verifier, by program.
-/
namespace Go.Proofs.YtaojbmhodpffiaaGreat
open Go.RowKit

/-- The one at a place with its numbers, which begin at s in the first one. -/
def fwMk (s : Int) (l : List Fw) (i : Nat) : Fw := ⟨s + 2 * (i : Int) + (fwSum l i : Int), s + 2 * (i : Int) + (fwSum l i : Int) + 1, mks (s + 2 * (i : Int) + (fwSum l i : Int) + 2) (fwAt l i).sizes (fwAt l i).sizes.length⟩
/-- The first j of them with their numbers. -/
def fwMks (s : Int) (l : List Fw) (j : Nat) : List Fw := (List.range l.length).map fun i => if i < j then fwMk s l i else fwAt l i
theorem fwMks_length (s : Int) (l : List Fw) (j : Nat) : (fwMks s l j).length = l.length := by simp [fwMks]
theorem fwMks_at (s : Int) (l : List Fw) (j : Nat) {i : Nat} (hi : i < l.length) : fwAt (fwMks s l j) i = if i < j then fwMk s l i else fwAt l i := by
  simp [fwAt, fwMks, hi]
theorem fwMk_length (s : Int) (l : List Fw) (i : Nat) : (fwMk s l i).sizes.length = (fwAt l i).sizes.length := mks_length _ _ _ (Nat.le_refl _)
theorem fwMks_zero (s : Int) (l : List Fw) : fwMks s l 0 = l := by
  apply List.ext_getElem
  · simp [fwMks]
  · intro i h1 h2
    simp [fwMks, fwAt, List.getElem?_eq_getElem h2]
theorem fwMks_next (s : Int) (l : List Fw) {j : Nat} (hj : j < l.length) : (fwMks s l j).set j (fwMk s l j) = fwMks s l (j + 1) := by
  apply List.ext_getElem?
  intro i
  by_cases hi : i < l.length
  · by_cases e : i = j
    · subst e
      rw [List.getElem?_set_self (by rw [fwMks_length]; exact hi)]
      simp [fwMks, hi]
    · rw [List.getElem?_set_ne (fun h => e h.symm)]
      simp only [fwMks, List.getElem?_map, List.getElem?_range hi, Option.map_some]
      by_cases hlt : i < j
      · rw [if_pos hlt, if_pos (by omega)]
      · rw [if_neg hlt, if_neg (by omega)]
  · rw [List.getElem?_eq_none (by rw [List.length_set, fwMks_length]; omega), List.getElem?_eq_none (by rw [fwMks_length]; omega)]
set_option maxHeartbeats 3200000 in
set_option maxRecDepth 100000 in
theorem markFws (s : Int) (s0 : 0 ≤ s) (s1 : s ≤ 549755813888) (b t : Nat) (v : Value) (l : List Fw) (hT : l.length ≤ 1048576) (hS : fwSum l l.length ≤ 1048576) (w : World) (H : Hid (FwsIn b t w v l)) :
    Calls Tryz.prog 126 #[v, .int .i64 s] w fun e w' => e = .returned (.int .i64 (s + 2 * (l.length : Int) + (fwSum l l.length : Int))) ∧ FwsIn b t w' v (fwMks s l l.length) ∧ Turn (fun k _ => b ≤ k ∧ k < t) w w' := by
  obtain ⟨rs, H0⟩ := H.out
  clear H
  obtain ⟨a, cap, rfl⟩ := H0.outer.shape
  obtain ⟨len, hlen⟩ : ∃ n, l.length = n := ⟨_, rfl⟩
  rw [hlen] at hT hS ⊢
  have Hlen : Hid (l.length = len) := hlen
  have H : Hid (FwV b t w (.slice a len cap) rs l) := by rw [← hlen]; exact H0
  clear hlen H0
  go_enter Tryz.func126, Tryz.ntmps126
  go_wp2
  go_loopw [1, 5] (fun kk i wr => ∃ (j : Nat) (kv : Int), j ≤ len ∧ i = .int .i64 j ∧ kk = .int .i64 kv ∧ Hid (kv = s + 2 * (j : Int) + (fwSum l j : Int)) ∧ Hid (∃ rs, FwV b t wr (.slice a len cap) rs (fwMks s l j) ∧ Turn (fun k _ => b ≤ k ∧ k < t) w wr)) (fun _ i _ => len - (intOf i).toNat)
  case atStart => exact ⟨0, s, Nat.zero_le _, rfl, rfl, by show s = s + 2 * ((0 : Nat) : Int) + ((fwSum l 0 : Nat) : Int); rw [fwSum_zero]; simp, rs, by rw [fwMks_zero]; exact H.out, Turn.refl _ _⟩
  case round =>
    clear H
    obtain ⟨j, kv, hj, rfl, rfl, Hkv, H2⟩ := hrel
    obtain ⟨rs, H2⟩ : ∃ rs, Hid (FwV b t wr (.slice a len cap) rs (fwMks s l j) ∧ Turn (fun k _ => b ≤ k ∧ k < t) w wr) := H2.out
    by_cases hlt : j < len
    · have hjl : j < l.length := by rw [Hlen.out]; exact hlt
      have hml := fwMks_length s l j
      have hrl : rs.length = len := by rw [H2.out.1.len, hml, Hlen.out]
      have hcl := fwcells_length rs
      have hout : SlIn b t wr (.slice a len cap) len (fwcells rs) := by
        have := H2.out.1.outer
        rw [hml, Hlen.out] at this
        exact this
      obtain ⟨x, off, ha, h1, h2, h3⟩ := SlIn.some hout (by intro e; rw [e] at hcl; simp at hcl; omega)
      subst ha
      have hs := fwSum_succ hjl
      have hm := fwSum_mono (l := l) (i := j + 1) (j := len) (by omega) (by rw [Hlen.out]; exact Nat.le_refl _)
      have k0 : 0 ≤ kv := by have := Hkv.out; omega
      have k1 : kv ≤ 1099511000000 := by have := Hkv.out; omega
      have em : fwAt (fwMks s l j) j = fwAt l j := by rw [fwMks_at s l j hjl, if_neg (by omega)]
      obtain ⟨i1, e1, ev, -⟩ := H2.out.1.cap j (by rw [hml]; exact hjl)
      rw [em] at ev
      -- the numbers
      have hput := hout
      have hput := SlIn.put hput (j * 3) (by omega) (.int .i64 (kv))
      have hput := SlIn.put hput (j * 3 + 1) (by simp only [List.length_set]; omega) (.int .i64 (kv + 1))
      have hset := fwcells_set rs j ⟨kv, kv + 1, (fwrAt rs j).hd⟩
      simp only at hset
      have hlast : ∀ (L : List Value), L[j * 3 + 2]? = some (fwrAt rs j).hd → L.set (j * 3 + 2) (fwrAt rs j).hd = L := fun L hL => by
        obtain ⟨hb, e⟩ := List.getElem?_eq_some_iff.1 hL
        apply List.ext_getElem?
        intro i
        by_cases e1 : i = j * 3 + 2
        · subst e1; rw [List.getElem?_set_self hb, hL]
        · rw [List.getElem?_set_ne (fun h => e1 h.symm)]
      have hgl := (fwcells_get rs j (by omega)).2.2
      rw [hlast _ (by rw [List.getElem?_set_ne (by omega), List.getElem?_set_ne (by omega)]; exact hgl)] at hset
      rw [hset] at hput
      have z0 := (SlIn.cells hout (j * 3) (by omega)).2
      have y0 := (SlIn.cells hout (j * 3) (by omega)).1
      have z1 := (SlIn.cells hout (j * 3 + 1) (by omega)).2
      have y1 := (SlIn.cells hout (j * 3 + 1) (by omega)).1
      have yh := (SlIn.cells hout (j * 3 + 2) (by omega)).1
      rw [hgl, Option.getD_some, ev] at yh
      simp only [← Nat.add_assoc] at hput yh z0 y0 z1 y1
      generalize hW1 : ((wr.setCell ⟨x, off + j * 3, none⟩ (.int .i64 (kv))).setCell ⟨x, off + j * 3 + 1, none⟩ (.int .i64 (kv + 1))) = w1 at hput
      have tn : Turn (Hits (.slice (some ⟨x, off, none⟩) len cap) (len * 3)) wr w1 := by
        rw [← hW1]
        refine (Turn.trans ((turn_set _ _ _ _).wide ?_) ((turn_set _ _ _ _).wide ?_))
        all_goals (rintro k o ⟨rfl, rfl⟩; exact ⟨off, len, cap, rfl, by omega, by omega⟩)
      have V1 : FwV b t w1 (.slice (some ⟨x, off, none⟩) len cap) (rs.set j ⟨kv, kv + 1, (fwrAt rs j).hd⟩) ((fwMks s l j).set j ⟨kv, kv + 1, (fwAt l j).sizes⟩) := by
        refine H2.out.1.nums (r' := ⟨kv, kv + 1, (fwAt l j).sizes⟩) (by rw [hml]; exact hjl) (by rw [em]) (by rw [hml, Hlen.out]; exact hput) (by rw [hml, Hlen.out]; exact tn)
      have hrow := V1.row j (by rw [List.length_set, hml]; exact hjl)
      rw [fwrAt_set (by omega), fwAt_set (by rw [hml]; exact hjl)] at hrow
      simp only at hrow
      have C1 := markIntsG (kv + 1 + 1) (by omega) (by omega) b t (fwrAt rs j).hd (fwAt l j).sizes (by omega) w1 hrow
      have St : Hid (∀ w', IntIn b t w' (fwrAt rs j).hd (mks (kv + 1 + 1) (fwAt l j).sizes (fwAt l j).sizes.length) → Turn (Hits (fwrAt rs j).hd (fwAt l j).sizes.length) w1 w' → ∃ rs, FwV b t w' (.slice (some ⟨x, off, none⟩) len cap) rs (fwMks s l (j + 1)) ∧ Turn (fun k _ => b ≤ k ∧ k < t) w w') := fun w' q1 q2 => by
        have hin := fun k o hh => SlIn.in hrow (k := k) (o := o) (by simpa using hh)
        have hin1 := fun k o hh => SlIn.in hout (k := k) (o := o) (by rw [hcl, hrl]; exact hh)
        refine ⟨rs.set j ⟨kv, kv + 1, (fwrAt rs j).hd⟩, ?_, H2.out.2.trans ((tn.wide hin1).trans (q2.wide hin))⟩
        have V2 := V1.list (j := j) (r' := ⟨kv, kv + 1, mks (kv + 1 + 1) (fwAt l j).sizes (fwAt l j).sizes.length⟩) (by rw [List.length_set, hml]; exact hjl) (by rw [fwAt_set (by rw [hml]; exact hjl)]) (by rw [fwAt_set (by rw [hml]; exact hjl)]) (by rw [fwAt_set (by rw [hml]; exact hjl)]; exact mks_length _ _ _ (Nat.le_refl _)) (by rw [fwrAt_set (by omega)]; exact q1) (by rw [fwrAt_set (by omega), fwAt_set (by rw [hml]; exact hjl)]; exact q2)
        rw [List.set_set] at V2
        have e : (⟨kv, kv + 1, mks (kv + 1 + 1) (fwAt l j).sizes (fwAt l j).sizes.length⟩ : Fw) = fwMk s l j := by
          unfold fwMk
          have := Hkv.out
          rw [show kv + 1 + 1 = s + 2 * (j : Int) + (fwSum l j : Int) + 2 by omega, show kv + 1 = s + 2 * (j : Int) + (fwSum l j : Int) + 1 by omega, show kv = s + 2 * (j : Int) + (fwSum l j : Int) by omega]
        rw [e, fwMks_next s l hjl] at V2
        exact V2
      have Hs : Hid (fwSum l (j + 1) = fwSum l j + (fwAt l j).sizes.length) := hs
      rw [ev] at C1 St
      have yh1 : (((wr.setCell ⟨x, off + j * 3, none⟩ (.int .i64 (kv))).setCell ⟨x, off + j * 3 + 1, none⟩ (.int .i64 (kv + 1)))).cell? ⟨x, off + j * 3 + 2, none⟩ = some (.slice i1 (fwAt l j).sizes.length e1) := by
        rw [World.cell?_setCell_other _ _ _ _ (by simp <;> omega), World.cell?_setCell_other _ _ _ _ (by simp <;> omega)]
        exact yh
      generalize mks (kv + 1 + 1) (fwAt l j).sizes (fwAt l j).sizes.length = ml at C1 St
      generalize (fwAt l j).sizes.length = n at C1 St Hs yh1 yh ev hs
      generalize (fwcells rs)[j * 3]?.getD undef = u0 at y0
      generalize (fwcells rs)[j * 3 + 1]?.getD undef = u1 at y1
      have HW1 : Hid (_ = w1) := hW1
      have hsz : w1.heap.size = wr.heap.size := by rw [← hW1]; simp [World.setCell]
      clear hrow hm hout hput hset hlast hgl hcl V1 tn em yh ev hs hsz hW1 h1 h2 h3
      have hlt' : (j : Int) < (len : Int) := by omega
      go_wp2_with fail
      rw [HW1.out]
      refine C1.mono ?_
      rintro e w2 ⟨rfl, q1, q2⟩
      have H3 : Hid (∃ rs, FwV b t w2 (.slice (some ⟨x, off, none⟩) len cap) rs (fwMks s l (j + 1)) ∧ Turn (fun k _ => b ≤ k ∧ k < t) w w2) := St.out w2 q1 q2
      clear q1 q2 yh1 St C1 HW1 z0 y0 z1 y1
      go_wp2
      go_roundw
      case rel =>
        refine ⟨j + 1, _, by omega, by go_num, rfl, ?_, H3⟩
        show _ = s + 2 * ((j + 1 : Nat) : Int) + ((fwSum l (j + 1) : Nat) : Int)
        rw [Hs.out, Hkv.out]
        push_cast
        omega
      case measure => simp [intOf]; omega
    · obtain rfl : j = len := by omega
      go_wp2
      go_ret
      exact ⟨by rw [← Hkv.out]; rfl, ⟨rs, H2.out.1⟩, H2.out.2⟩

set_option maxHeartbeats 3200000 in
set_option maxRecDepth 100000 in
theorem heldFws (s : Int) (s0 : 0 ≤ s) (s1 : s ≤ 549755813888) (a : Option Addr) (cap : Nat) (l : List Fw) (hT : l.length ≤ 1048576) (hS : fwSum l l.length ≤ 1048576) (w : World) (H : Hid (FwsAt w a (fwMks s l l.length))) :
    Calls Tryz.prog 128 #[.slice a l.length cap, .int .i64 s] w fun e w' => e = .returned (.int .i64 (s + 2 * (l.length : Int) + (fwSum l l.length : Int))) ∧ w' = w := by
  obtain ⟨len, hlen⟩ : ∃ n, l.length = n := ⟨_, rfl⟩
  rw [hlen] at hT hS H ⊢
  have Hlen : Hid (l.length = len) := hlen
  clear hlen
  go_enter Tryz.func128, Tryz.ntmps128
  go_wp2
  go_loop [1, 5] (fun kk i => ∃ (j : Nat) (kv : Int), j ≤ len ∧ i = .int .i64 j ∧ kk = .int .i64 kv ∧ Hid (kv = s + 2 * (j : Int) + (fwSum l j : Int))) (fun _ i => len - (intOf i).toNat)
  case atStart => exact ⟨0, s, Nat.zero_le _, rfl, rfl, by show s = s + 2 * ((0 : Nat) : Int) + ((fwSum l 0 : Nat) : Int); rw [fwSum_zero]; simp⟩
  case round =>
    obtain ⟨j, kv, hj, rfl, rfl, Hkv⟩ := hrel
    by_cases hlt : j < len
    · have hjl : j < l.length := by rw [Hlen.out]; exact hlt
      obtain ⟨x, off, i1, e1, ha, hb, ⟨c0, c1, c2⟩, hr, -⟩ := H.out j (by rw [fwMks_length]; exact hjl)
      subst ha
      rw [fwMks_at s l _ hjl, if_pos hlt] at c0 c1 c2 hr
      have hs := fwSum_succ hjl
      have hm := fwSum_mono (l := l) (i := j + 1) (j := len) (by omega) (by rw [Hlen.out]; exact Nat.le_refl _)
      have k0 : 0 ≤ kv := by have := Hkv.out; omega
      have k1 : kv ≤ 1099511000000 := by have := Hkv.out; omega
      have hkv := Hkv.out
      rw [fwMk_length] at c2
      unfold fwMk at c0 c1 hr
      simp only at c0 c1 hr
      rw [show s + 2 * (j : Int) + (fwSum l j : Int) + 2 = kv + 1 + 1 by omega] at hr
      rw [show s + 2 * (j : Int) + (fwSum l j : Int) = kv by omega] at c0
      rw [show s + 2 * (j : Int) + (fwSum l j : Int) + 1 = kv + 1 by omega] at c1
      clear hkv
      have C1 := heldIntsF (kv + 1 + 1) (by omega) (by omega) i1 e1 (fwAt l j).sizes (by omega) w hr
      have Hs : Hid (fwSum l (j + 1) = fwSum l j + (fwAt l j).sizes.length) := hs
      generalize (fwAt l j).sizes.length = n at C1 Hs c2 hs
      have k2 : ¬ kv + 1 + 1 + (n : Int) < 0 := by omega
      clear hr hm hs
      have hlt' : (j : Int) < (len : Int) := by omega
      go_wp2_with fail
      refine C1.mono ?_
      rintro e w2 ⟨rfl, hw⟩
      have hw := hw.symm
      subst hw
      generalize hkn : kv + 1 + 1 + (n : Int) = kn at k2 ⊢
      have Hkn : Hid (kn = kv + 1 + 1 + (n : Int)) := hkn.symm
      clear hkn
      go_wp2
      go_round
      case rel =>
        refine ⟨j + 1, _, by omega, by go_num, rfl, ?_⟩
        show _ = s + 2 * ((j + 1 : Nat) : Int) + ((fwSum l (j + 1) : Nat) : Int)
        rw [Hs.out, Hkn.out, Hkv.out]
        push_cast
        omega
      case measure => simp [intOf]; omega
    · obtain rfl : j = len := by omega
      go_wp2
      go_ret
      exact ⟨by rw [← Hkv.out]; rfl, rfl⟩
end Go.Proofs.YtaojbmhodpffiaaGreat
