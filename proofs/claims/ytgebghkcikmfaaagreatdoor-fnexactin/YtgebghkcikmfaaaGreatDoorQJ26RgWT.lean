import Derived.Test.YtgebghkcikmfaaaGreatDoorQJ2RuMatch
import Derived.RegionTactic
import Derived.WalkKit
import Derived.Test.YtgebghkcikmfaaaGreatDoorQJ0NumUp
import Derived.RowKit3
import Derived.Below
/-
  The walk of the laws' comparison of records (Route), where both hold the same. By the verifier, by program.
-/
namespace Go.Proofs.YtgebghkcikmfaaaGreatDoor
open Go.RowKit

set_option maxHeartbeats 1600000 in
theorem eqRt (r : Rt) (w : World) :
    Calls Tryz.prog 114 #[r.val, r.val] w fun e w' => e = .returned (.bool true) ∧ Below w.heap.size w w' := by
  unfold Rt.val
  obtain ⟨v0, v1, v2⟩ := r
  simp only []
  go_enter Tryz.func114, Tryz.ntmps114
  go_wp2
  go_ret
  exact ⟨rfl, ((Below.refl _ w).alloc (Nat.le_refl _) _).alloc (by simp) _⟩
end Go.Proofs.YtgebghkcikmfaaaGreatDoor

/-
  The walks of the laws' copies of lists of records (Route), of their sizes, and of their comparisons where both hold the same. By the verifier, by program.
-/
namespace Go.Proofs.YtgebghkcikmfaaaGreatDoor
open Go.RowKit

set_option maxHeartbeats 3200000 in
set_option maxRecDepth 100000 in
theorem eqRts (a1 a2 : Option Addr) (cap1 cap2 : Nat) (l : List Rt) (w : World) (hT : l.length ≤ 1048576) (h1 : Hid (RtsAt w a1 l)) (h2 : Hid (RtsAt w a2 l)) :
    Calls Tryz.prog 40 #[.slice a1 l.length cap1, .slice a2 l.length cap2] w fun e w' => e = .returned (.bool true) ∧ Below w.heap.size w w' := by
  obtain ⟨len, hlen⟩ : ∃ n, l.length = n := ⟨_, rfl⟩
  rw [hlen] at hT ⊢
  have Hlen : Hid (l.length = len) := hlen
  clear hlen
  go_enter Tryz.func40, Tryz.ntmps40
  go_wp2
  go_loopw [5] (fun i wr => ∃ k : Nat, k ≤ len ∧ i = .int .i64 k ∧ Hid (Below w.heap.size w wr)) (fun i _ => len - (intOf i).toNat)
  case atStart => exact ⟨0, Nat.zero_le _, rfl, Below.refl _ _⟩
  case round =>
    obtain ⟨k, hk, rfl, hb⟩ := hrel
    by_cases hlt : k < len
    · have R1 : Hid (RtsAt wr a1 l) := h1.out.below hb.out
      have R2 : Hid (RtsAt wr a2 l) := h2.out.below hb.out
      obtain ⟨b1, o1, ha1, -⟩ := R1.out k (by rw [Hlen.out]; exact hlt)
      obtain ⟨b2, o2, ha2, -⟩ := R2.out k (by rw [Hlen.out]; exact hlt)
      subst ha1; subst ha2
      have F1 := fun p : BelW wr.heap.size wr => (R1.out.below p.h).cells (k := k) (by rw [Hlen.out]; exact hlt)
      have F2 := fun p : BelW wr.heap.size wr => (R2.out.below p.h).cells (k := k) (by rw [Hlen.out]; exact hlt)
      have E := fun w => eqRt (rtAt l k) w
      unfold Rt.val at E
      generalize rtAt l k = r at F1 F2 E
      have f1_0 := fun p => (F1 p).1
      have f1_1 := fun p => (F1 p).2.1
      have f1_2 := fun p => (F1 p).2.2
      have f2_0 := fun p => (F2 p).1
      have f2_1 := fun p => (F2 p).2.1
      have f2_2 := fun p => (F2 p).2.2
      clear F1 F2
      have hlt' : (k : Int) < (len : Int) := by omega
      go_wp2
      haveI : Nonempty (BelW wr.heap.size wr) := ⟨⟨wr, Below.refl _ _⟩⟩
      refine region_below wr.heap.size (by kernel_rfl) (by kernel_rfl) ?_
      repeat (quiet_step ((go_at_call 114; refine quiet_below (Nat.le_refl _) (E _))))
      refine wpQuiet_nil ?_
      intro wq hx
      have hq := BelW.out hx
      have B : Hid (Below w.heap.size w wq) := hb.out.trans (hq.mono hb.out.size)
      clear hx hq f1_0 f1_1 f1_2 f2_0 f2_1 f2_2
      go_wp2
      go_roundw
      case rel => exact ⟨k + 1, by omega, by go_num, B⟩
      case measure => simp [intOf]; omega
    · go_wp2
      go_ret
      exact ⟨rfl, hb.out⟩

end Go.Proofs.YtgebghkcikmfaaaGreatDoor

/-
  What the laws do to see whose memory a list of records (Route) is: numbers put into it and looked for again. By the verifier, by program.
-/
namespace Go.Proofs.YtgebghkcikmfaaaGreatDoor
open Go.RowKit

def rtMkF (s : Int) (i : Nat) : Rt := ⟨s + 3 * (i : Int), s + 3 * (i : Int) + 1, s + 3 * (i : Int) + 2⟩
def rtMksF (s : Int) (L : List Rt) (j : Nat) : List Rt := (List.range j).map (rtMkF s) ++ L.drop j
theorem rtMksF_length (s : Int) (L : List Rt) (j : Nat) (h : j ≤ L.length) : (rtMksF s L j).length = L.length := by simp [rtMksF]; omega
theorem rtMksF_zero (s : Int) (L : List Rt) : rtMksF s L 0 = L := by simp [rtMksF]
theorem rtMksF_step (s : Int) (L : List Rt) (j : Nat) (h : j < L.length) : (rtMksF s L j).set j (rtMkF s j) = rtMksF s L (j + 1) := by
  unfold rtMksF
  rw [List.set_append_right _ _ (by simp), List.range_succ, List.map_append]
  simp
  rw [List.drop_eq_getElem_cons h]
  rfl
theorem rtMksF_end (s : Int) (L : List Rt) (j : Nat) (hj : j < L.length) : rtAt (rtMksF s L L.length) j = rtMkF s j := by
  have : j < L.length := hj
  simp [rtMksF, rtAt, this]
end Go.Proofs.YtgebghkcikmfaaaGreatDoor

/-
  The numbers that were put into a list of records (Route), looked for again. By the verifier, by program.
-/
namespace Go.Proofs.YtgebghkcikmfaaaGreatDoor
open Go.RowKit

set_option maxHeartbeats 3200000 in
set_option maxRecDepth 100000 in
theorem heldRtsF (s : Int) (s0 : 0 ≤ s) (s1 : s ≤ 1099511627776) (a : Option Addr) (cap : Nat) (T : List Rt) (hT : T.length ≤ 1048576) (w : World) (H : Hid (RtsAt w a (rtMksF s T T.length))) :
    Calls Tryz.prog 54 #[.slice a T.length cap, .int .i64 s] w fun e w' => e = .returned (.int .i64 (s + 3 * (T.length : Int))) ∧ w' = w := by
  have Hc : Hid (∀ j, j < T.length → ∃ b off, a = some ⟨b, off, none⟩ ∧ ∀ kv : Int, kv = s + 3 * (j : Int) → w.cell? ⟨b, off + j * 3, none⟩ = some (.int .i64 (kv)) ∧ w.cell? ⟨b, off + j * 3 + 1, none⟩ = some (.int .i64 (kv + 1)) ∧ w.cell? ⟨b, off + j * 3 + 2, none⟩ = some (.int .i64 (kv + 2))) := by
    show ∀ j, j < T.length → _
    intro j hj
    obtain ⟨b, off, e, _, c0, c1, c2⟩ := H.out j (by rw [rtMksF_length s T _ (Nat.le_refl _)]; exact hj)
    rw [rtMksF_end s T j hj] at c0 c1 c2
    refine ⟨b, off, e, fun kv hkv => ?_⟩
    subst hkv
    exact ⟨c0, c1, c2⟩
  generalize T.length = len at hT Hc ⊢
  clear H
  go_enter Tryz.func54, Tryz.ntmps54
  go_wp2
  go_loop [1, 5] (fun kk i => ∃ (j : Nat) (kv : Int), j ≤ len ∧ i = .int .i64 j ∧ kk = .int .i64 kv ∧ kv = s + 3 * (j : Int)) (fun _ i => len - (intOf i).toNat)
  case atStart => exact ⟨0, s, Nat.zero_le _, rfl, rfl, by simp⟩
  case round =>
    obtain ⟨j, kv, hj, rfl, rfl, hkv⟩ := hrel
    have Hkv : Hid (kv = s + 3 * (j : Int)) := hkv
    have k0 : 0 ≤ kv := by omega
    have k1 : kv ≤ 1099514773504 := by omega
    by_cases hlt : j < len
    · obtain ⟨b, off, ha, hc⟩ := Hc.out j hlt
      obtain ⟨c0, c1, c2⟩ := hc kv hkv
      subst ha
      clear hkv hc
      go_wp2
      go_round
      case rel => exact ⟨j + 1, kv + 3, by omega, by go_num, by go_num, by rw [Hkv.out]; push_cast; omega⟩
      case measure => simp [intOf]; omega
    · obtain rfl : j = len := by omega
      clear hkv
      go_wp2
      go_ret
      exact ⟨by rw [← Hkv.out]; rfl, rfl⟩
end Go.Proofs.YtgebghkcikmfaaaGreatDoor

/-
  Numbers put into lists of records (Route) that lie wherever. By the verifier, by program.
-/
namespace Go.Proofs.YtgebghkcikmfaaaGreatDoor
open Go.RowKit

set_option maxHeartbeats 6400000 in
set_option maxRecDepth 100000 in
theorem markRtsG (s : Int) (s0 : 0 ≤ s) (s1 : s ≤ 1099511627776) (b t : Nat) (v : Value) (T : List Rt) (hT : T.length ≤ 1048576) (w : World) (H : Hid (RtIn b t w v T)) :
    Calls Tryz.prog 47 #[v, .int .i64 s] w fun e w' => e = .returned (.int .i64 (s + 3 * (T.length : Int))) ∧ RtIn b t w' v (rtMksF s T T.length) ∧ Turn (Hits v (T.length * 3)) w w' := by
  obtain ⟨a, cap, rfl⟩ := SlIn.shape H.out
  obtain ⟨len, hlen⟩ : ∃ n, T.length = n := ⟨_, rfl⟩
  have hcl := rtcells_length T
  have H : Hid (SlIn b t w (.slice a len cap) len (rtcells T)) := by
    have h := H.out
    unfold RtIn at h
    rw [hlen] at h
    exact h
  rw [hlen] at hT ⊢
  have Hlen : Hid (T.length = len) := hlen
  have Hcl : Hid (∀ j, j ≤ len → (rtcells (rtMksF s T j)).length = len * 3) := fun j hj => by rw [rtcells_length, rtMksF_length s T j (by rw [Hlen.out]; exact hj), Hlen.out]
  clear hlen hcl
  go_enter Tryz.func47, Tryz.ntmps47
  go_wp2
  go_loopw [1, 5] (fun kk i wr => ∃ (j : Nat) (kv : Int), j ≤ len ∧ i = .int .i64 j ∧ kk = .int .i64 kv ∧ kv = s + 3 * (j : Int) ∧ Hid (SlIn b t wr (.slice a len cap) len (rtcells (rtMksF s T j)) ∧ Turn (Hits (.slice a len cap) (len * 3)) w wr)) (fun _ i _ => len - (intOf i).toNat)
  case atStart => exact ⟨0, s, Nat.zero_le _, rfl, rfl, by simp, by rw [rtMksF_zero]; exact H.out, Turn.refl _ _⟩
  case round =>
    obtain ⟨j, kv, hj, rfl, rfl, hkv, H2⟩ := hrel
    have Hkv : Hid (kv = s + 3 * (j : Int)) := hkv
    have k0 : 0 ≤ kv := by omega
    have k1 : kv ≤ 1099514773504 := by omega
    by_cases hlt : j < len
    · have hcl := Hcl.out j hj
      obtain ⟨g, off, ha, h1, h2, h3⟩ := SlIn.some H2.out.1 (by intro e; rw [e] at hcl; simp at hcl; omega)
      subst ha
      have em : rtMkF s j = ⟨kv, kv + 1, kv + 1 + 1⟩ := by
        rw [hkv]
        unfold rtMkF
        simp only [Rt.mk.injEq]
        refine ⟨by first | trivial | omega, by first | trivial | omega, by first | trivial | omega⟩
      have hput := H2.out.1
      have hput := SlIn.put hput (j * 3) (by omega) (.int .i64 (kv))
      have hput := SlIn.put hput (j * 3 + 1) (by simp only [List.length_set]; omega) (.int .i64 (kv + 1))
      have hput := SlIn.put hput (j * 3 + 2) (by simp only [List.length_set]; omega) (.int .i64 (kv + 1 + 1))
      have hset := rtcells_set (rtMksF s T j) j (rtMkF s j)
      rw [rtMksF_step s T j (by rw [Hlen.out]; exact hlt)] at hset
      simp only [em] at hset
      rw [hset] at hput
      have z0 := (SlIn.cells H2.out.1 (j * 3) (by omega)).2
      have y0 := (SlIn.cells H2.out.1 (j * 3) (by omega)).1
      have z1 := (SlIn.cells H2.out.1 (j * 3 + 1) (by omega)).2
      have y1 := (SlIn.cells H2.out.1 (j * 3 + 1) (by omega)).1
      have z2 := (SlIn.cells H2.out.1 (j * 3 + 2) (by omega)).2
      have y2 := (SlIn.cells H2.out.1 (j * 3 + 2) (by omega)).1
      simp only [← Nat.add_assoc] at hput z0 y0 z1 y1 z2 y2
      have H3 : Hid (SlIn b t (((wr.setCell ⟨g, off + j * 3, none⟩ (.int .i64 (kv))).setCell ⟨g, off + j * 3 + 1, none⟩ (.int .i64 (kv + 1))).setCell ⟨g, off + j * 3 + 2, none⟩ (.int .i64 (kv + 1 + 1))) (.slice (some ⟨g, off, none⟩) len cap) len (rtcells (rtMksF s T (j + 1))) ∧ Turn (Hits (.slice (some ⟨g, off, none⟩) len cap) (len * 3)) w (((wr.setCell ⟨g, off + j * 3, none⟩ (.int .i64 (kv))).setCell ⟨g, off + j * 3 + 1, none⟩ (.int .i64 (kv + 1))).setCell ⟨g, off + j * 3 + 2, none⟩ (.int .i64 (kv + 1 + 1)))) := by
        refine ⟨hput, H2.out.2.trans ?_⟩
        refine (Turn.trans (Turn.trans ((turn_set _ _ _ _).wide ?_) ((turn_set _ _ _ _).wide ?_)) ((turn_set _ _ _ _).wide ?_))
        all_goals (rintro k o ⟨rfl, rfl⟩; exact ⟨off, len, cap, rfl, by omega, by omega⟩)
      generalize (rtcells (rtMksF s T j))[j * 3]?.getD undef = u0 at y0; generalize (rtcells (rtMksF s T j))[j * 3 + 1]?.getD undef = u1 at y1; generalize (rtcells (rtMksF s T j))[j * 3 + 2]?.getD undef = u2 at y2
      clear hput hset hkv em hcl h1 h2 h3
      go_wp2
      go_roundw
      case rel => exact ⟨j + 1, kv + 3, by omega, by go_num, by go_num, by rw [Hkv.out]; push_cast; omega, H3⟩
      case measure => simp [intOf]; omega
    · obtain rfl : j = len := by omega
      go_wp2
      go_ret
      refine ⟨by rw [← Hkv.out]; rfl, ?_, H2.out.2⟩
      have h := H2.out.1
      unfold RtIn
      rw [rtMksF_length s T _ (by rw [Hlen.out]; omega), Hlen.out]
      exact h
end Go.Proofs.YtgebghkcikmfaaaGreatDoor

/-
  Lists (Route) as values with memory: what the laws' own functions do on them, numbers from any one on. By the verifier, by program.
-/
namespace Go.Proofs.YtgebghkcikmfaaaGreatDoor
open Go.RowKit

def rtMkS (s : Int) (l : List Rt) : List Rt := rtMksF s l l.length
theorem rtMkS_length (s : Int) (l : List Rt) : (rtMkS s l).length = l.length := rtMksF_length s l l.length (Nat.le_refl _)
theorem eqRtW (v1 v2 : Value) (l : List Rt) (w : World) (hT : l.length ≤ 1048576) (h1 : Hid (RtsV w v1 l)) (h2 : Hid (RtsV w v2 l)) :
    Calls Tryz.prog 40 #[v1, v2] w fun e w' => e = .returned (.bool true) ∧ Below w.heap.size w w' := by
  obtain ⟨a1, c1, rfl, k1, _⟩ := h1.out
  obtain ⟨a2, c2, rfl, k2, _⟩ := h2.out
  exact eqRts a1 a2 c1 c2 l w hT k1 k2
theorem markRtS (s : Int) (s0 : 0 ≤ s) (s1 : s ≤ 549755813888) (b t : Nat) (v : Value) (l : List Rt) (w : World) (hT : l.length ≤ 1048576) (H : Hid (RtsW b t w v l)) :
    Calls Tryz.prog 47 #[v, .int .i64 s] w fun e w' => e = .returned (.int .i64 (s + 3 * (l.length : Int))) ∧ RtsW b t w' v (rtMkS s l) ∧ Span b t w w' :=
  (markRtsG s (by omega) (by omega) b t v l hT w H.out.1).mono fun e w' hh => by
    obtain ⟨rfl, h1, h2⟩ := hh
    obtain ⟨a, c, rfl, hc⟩ := H.out.2
    refine ⟨rfl, ⟨h1, a, c, by rw [rtMkS_length], by rw [rtMkS_length]; exact hc⟩, Span.of_turn h2 fun k o hh => ?_⟩
    have := SlIn.in H.out.1 (k := k) (o := o)
    rw [rtcells_length] at this
    exact this hh
theorem heldRtS (s : Int) (s0 : 0 ≤ s) (s1 : s ≤ 549755813888) (v : Value) (l : List Rt) (w : World) (hT : l.length ≤ 1048576) (H : Hid (RtsV w v (rtMkS s l))) :
    Calls Tryz.prog 54 #[v, .int .i64 s] w fun e w' => e = .returned (.int .i64 (s + 3 * (l.length : Int))) ∧ Below w.heap.size w w' := by
  obtain ⟨a, c, rfl, k, _⟩ := H.out
  rw [rtMkS_length]
  exact (heldRtsF s (by omega) (by omega) a c l hT w k).mono fun e w' hh => ⟨hh.1, by rw [hh.2]; exact Below.refl _ _⟩
end Go.Proofs.YtgebghkcikmfaaaGreatDoor

/-
  The walk of the laws' copy of a record (Route). By the verifier, by program.
-/
namespace Go.Proofs.YtgebghkcikmfaaaGreatDoor
open Go.RowKit

set_option maxHeartbeats 1600000 in
theorem toRt (r : Rt) (w : World) :
    Calls Tryz.prog 84 #[r.val] w fun e w' => e = .returned r.val ∧ w' = ((w.alloc (.cells r.cells.toArray 134)).alloc (.cells r.cells.toArray 132)).alloc (.cells r.cells.toArray 132) := by
  unfold Rt.val Rt.cells
  obtain ⟨v0, v1, v2⟩ := r
  simp only []
  go_enter Tryz.func84, Tryz.ntmps84
  go_wp2
  refine bodyPost_ret (v := .agg #[.int .i64 v0, .int .i64 v1, .int .i64 v2]) (by simp [results, Tryz.results84, go_sem]) rfl ⟨rfl, rfl⟩
theorem toRtB (r : Rt) (w : World) :
    Calls Tryz.prog 84 #[r.val] w fun e w' => e = .returned r.val ∧ Below w.heap.size w w' :=
  (toRt r w).mono fun _ _ h => ⟨h.1, by
    rw [h.2]
    exact (((Below.refl _ w).alloc (Nat.le_refl _) _).alloc (by simp) _).alloc (by simp; omega) _⟩
end Go.Proofs.YtgebghkcikmfaaaGreatDoor

/-
  Routes copied; how many a list holds. By the verifier.
-/
namespace Go.Proofs.YtgebghkcikmfaaaGreatDoor
open Go.RowKit

set_option maxHeartbeats 3200000 in
set_option maxRecDepth 100000 in
theorem toRts (a : Option Addr) (cap : Nat) (l : List Rt) (w : World) (hT : l.length ≤ 1048576) (h : Hid (RtsAt w a l)) :
    Calls Tryz.prog 26 #[.slice a l.length cap] w fun e w' => ∃ g, e = .returned (.slice (some ⟨g, 0, none⟩) l.length l.length) ∧ RtRow w.heap.size w' (.slice (some ⟨g, 0, none⟩) l.length l.length) l ∧ Below w.heap.size w w' := by
  obtain ⟨i0, hi, hz0, hz1, hz2⟩ := info_parts rtInfo
  obtain ⟨len, hlen⟩ : ∃ n, l.length = n := ⟨_, rfl⟩
  unfold RtRow
  rw [hlen] at hT ⊢
  have Hlen : Hid (l.length = len) := hlen
  clear hlen
  have hmk : ∀ wx, (Instr.makeSlice 39 (.int .i64 (len : Int)) (.int .i64 (len : Int))).run Tryz.prog wx = .ok (.slice (some ⟨wx.heap.size, 0, none⟩) len len) (wx.alloc (.cells (madeCells #[.int .i64 0, .int .i64 0, .int .i64 0] (len * 3)) 132)) := by
    intro wx
    have := run_make (P := Tryz.prog) wx 39 132 i0 (.agg #[.int .i64 0, .int .i64 0, .int .i64 0]) Tryz.underlying39 hi hz0 .i64 .i64 len len (by omega) (by omega) (by rw [hz2]; omega) (by omega)
    rw [this, hz1]; simp [Value.cells]
  have H0 : Hid ((w.alloc (.cells (madeCells #[.int .i64 0, .int .i64 0, .int .i64 0] (len * 3)) 132)).ownsRow w.heap.size 132 3 (.slice (some ⟨w.heap.size, 0, none⟩) len len) len (rtcells (l.take 0 ++ List.replicate (len - 0) ⟨0, 0, 0⟩))) := by
    have := World.ownsRow_lit (size := 3) (e := 132) (base := w.heap.size) w (madeCells #[.int .i64 0, .int .i64 0, .int .i64 0] (len * 3)) len (Nat.le_refl _) (by unfold maxLen; omega) (by rw [size_madeCells])
    rw [rtMade] at this
    show World.ownsRow _ _ _ _ _ _ _
    simpa using this
  clear hi hz0 hz1 hz2
  go_enter Tryz.func26, Tryz.ntmps26
  go_wp2
  go_loopw [4] (fun i wr => ∃ k : Nat, k ≤ len ∧ i = .int .i64 k ∧ Hid (wr.ownsRow w.heap.size 132 3 (.slice (some ⟨w.heap.size, 0, none⟩) len len) len (rtcells (l.take k ++ List.replicate (len - k) ⟨0, 0, 0⟩)) ∧ Below w.heap.size w wr)) (fun i _ => len - (intOf i).toNat)
  case atStart => exact ⟨0, Nat.zero_le _, rfl, H0.out, (Below.refl _ _).alloc (Nat.le_refl _) _⟩
  case round =>
    clear H0 hmk
    obtain ⟨k, hk, rfl, H1⟩ := hrel
    by_cases hlt : k < len
    · have R : Hid (RtsAt wr a l) := h.out.below H1.out.2
      obtain ⟨b1, o1, ha1, hb1, -⟩ := R.out k (by rw [Hlen.out]; exact hlt)
      subst ha1
      obtain ⟨c0, c1, c2⟩ := R.out.cells (k := k) (by rw [Hlen.out]; exact hlt)
      have hts := rtTakeSet l len k Hlen.out hlt
      have T := fun w => toRtB (rtAt l k) w
      unfold Rt.val at T
      generalize rtAt l k = r at c0 c1 c2 hts T
      have Hts : Hid _ := hts
      clear hts
      go_wp2_with fail
      refine (T _).mono ?_
      rintro e w2 ⟨rfl, b2⟩
      have hsz : w.heap.size < wr.heap.size := (World.ownsRow.lt H1.out.1 _ rfl).2
      have H2 : Hid (w2.ownsRow w.heap.size 132 3 (.slice (some ⟨w.heap.size, 0, none⟩) len len) len (rtcells (l.take k ++ List.replicate (len - k) ⟨0, 0, 0⟩)) ∧ Below w.heap.size w w2) := by
        refine ⟨?_, H1.out.2.trans (b2.mono H1.out.2.size)⟩
        have hh := H1.out.1
        refine ⟨hh.1, hh.2.imp id ?_⟩
        rintro ⟨g0, cp, cur, h1, h2, h3, h4⟩
        cases h1
        exact ⟨_, _, cur, rfl, h2, by rw [b2.block _ hsz]; exact h3, h4⟩
      have hL : (rtcells (l.take k ++ List.replicate (len - k) ⟨0, 0, 0⟩)).length = len * 3 := by
        rw [rtcells_length]; have := Hlen.out; simp; omega
      have ex : ∀ j, j < len * 3 → ∃ v, w2.cell? ⟨w.heap.size, j, none⟩ = some v := by
        intro j hj
        rw [H2.out.1.cellAt j hj]
        exact ⟨_, List.getElem?_eq_getElem (by omega)⟩
      obtain ⟨y0, hy0⟩ := ex (k * 3) (by omega)
      obtain ⟨y1, hy1⟩ := ex (k * 3 + 1) (by omega)
      obtain ⟨y2, hy2⟩ := ex (k * 3 + 2) (by omega)
      have z0 := H2.out.1.frozenAt (k * 3)
      have z1 := H2.out.1.frozenAt (k * 3 + 1)
      have z2 := H2.out.1.frozenAt (k * 3 + 2)
      have H3 : Hid (_ ∧ Below w.heap.size w (((w2.setCell ⟨w.heap.size, k * 3, none⟩ (.int .i64 r.net)).setCell ⟨w.heap.size, k * 3 + 1, none⟩ (.int .i64 r.bits)).setCell ⟨w.heap.size, k * 3 + 2, none⟩ (.int .i64 r.hop))) := ⟨RtRow.put H2.out.1 k r, ((H2.out.2.setCell (Nat.le_refl _) _).setCell (Nat.le_refl _) _).setCell (Nat.le_refl _) _⟩
      clear b2 hL ex H1 R H2
      go_wp2
      go_roundw
      case rel => exact ⟨k + 1, by omega, by go_num, by rw [← Hts.out]; exact H3.out⟩
      case measure => simp [intOf]; omega
    · obtain rfl : k = len := by omega
      go_wp2
      go_ret
      refine ⟨_, rfl, ?_, H1.out.2⟩
      have hh := H1.out.1
      rw [Nat.sub_self, List.take_of_length_le (by rw [Hlen.out]; omega)] at hh
      simpa using hh

theorem szRts (L : Int) (h0 : 0 ≤ L) (h1 : L ≤ 1048576) (a : Option Addr) (cap len : Nat) (w : World) (hl : (len : Int) ≤ 9223372036854775807) :
    Calls Tryz.prog 15 #[.slice a len cap, .int .i64 L] w fun e w' => e = .returned (.int .i64 (if L - len < 0 then -1 else L - len)) ∧ w' = w := by
  by_cases h : L - len < 0
  · rw [if_pos h]
    go_enter Tryz.func15, Tryz.ntmps15
    go_wp2
    go_ret
    exact ⟨rfl, rfl⟩
  · rw [if_neg h]
    go_enter Tryz.func15, Tryz.ntmps15
    go_wp2
    go_ret
    exact ⟨rfl, rfl⟩
end Go.Proofs.YtgebghkcikmfaaaGreatDoor

/-
  A list copied, as a list with memory. By the verifier.
-/
namespace Go.Proofs.YtgebghkcikmfaaaGreatDoor
open Go.RowKit

theorem toRtW (a : Option Addr) (c : Nat) (l : List Rt) (w : World) (hT : l.length ≤ 1048576) (h : Hid (RtsAt w a l)) :
    Calls Tryz.prog 26 #[.slice a l.length c] w fun e w' => (∃ v, e = .returned v ∧ RtsW w.heap.size w'.heap.size w' v l) ∧ Below w.heap.size w w' :=
  (toRts a c l w hT h).mono fun e w' hh => by
    obtain ⟨g, rfl, hr, hb⟩ := hh
    exact ⟨⟨_, rfl, RtsW.of_row hr⟩, hb⟩
end Go.Proofs.YtgebghkcikmfaaaGreatDoor
