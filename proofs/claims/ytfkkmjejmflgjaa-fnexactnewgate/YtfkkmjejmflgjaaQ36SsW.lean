import Derived.Test.YtfkkmjejmflgjaaQ0SrPlain
import Derived.RegionTactic
import Derived.WalkKit
import Derived.Test.YtfkkmjejmflgjaaQ11Quiet
import Derived.Test.YtfkkmjejmflgjaaQ28IzMark
import Derived.Test.YtfkkmjejmflgjaaQ2SsV
/-
  The walk of the laws' comparison of records (Steer), where both hold the same. By the verifier, by program.
-/
namespace Go.Proofs.Ytfkkmjejmflgjaa
open Go.RowKit

set_option maxHeartbeats 1600000 in
theorem eqSr (r : Sr) (w : World) :
    Calls Try.prog 64 #[r.val, r.val] w fun e w' => e = .returned (.bool true) ∧ Below w.heap.size w w' := by
  unfold Sr.val
  obtain ⟨v0, v1, v2⟩ := r
  simp only []
  go_enter Try.func64, Try.ntmps64
  go_wp2
  go_ret
  exact ⟨rfl, ((Below.refl _ w).alloc (Nat.le_refl _) _).alloc (by simp) _⟩
end Go.Proofs.Ytfkkmjejmflgjaa

/-
  The walks of the laws' copies of lists of records (Steer), of their sizes, and of their comparisons where both hold the same. By the verifier, by program.
-/
namespace Go.Proofs.Ytfkkmjejmflgjaa
open Go.RowKit

set_option maxHeartbeats 3200000 in
set_option maxRecDepth 100000 in
theorem eqSrs (a1 a2 : Option Addr) (cap1 cap2 : Nat) (l : List Sr) (w : World) (hT : l.length ≤ 1048576) (h1 : Hid (SrsAt w a1 l)) (h2 : Hid (SrsAt w a2 l)) :
    Calls Try.prog 30 #[.slice a1 l.length cap1, .slice a2 l.length cap2] w fun e w' => e = .returned (.bool true) ∧ Below w.heap.size w w' := by
  obtain ⟨len, hlen⟩ : ∃ n, l.length = n := ⟨_, rfl⟩
  rw [hlen] at hT ⊢
  have Hlen : Hid (l.length = len) := hlen
  clear hlen
  go_enter Try.func30, Try.ntmps30
  go_wp2
  go_loopw [5] (fun i wr => ∃ k : Nat, k ≤ len ∧ i = .int .i64 k ∧ Hid (Below w.heap.size w wr)) (fun i _ => len - (intOf i).toNat)
  case atStart => exact ⟨0, Nat.zero_le _, rfl, Below.refl _ _⟩
  case round =>
    obtain ⟨k, hk, rfl, hb⟩ := hrel
    by_cases hlt : k < len
    · have R1 : Hid (SrsAt wr a1 l) := h1.out.below hb.out
      have R2 : Hid (SrsAt wr a2 l) := h2.out.below hb.out
      obtain ⟨b1, o1, ha1, -⟩ := R1.out k (by rw [Hlen.out]; exact hlt)
      obtain ⟨b2, o2, ha2, -⟩ := R2.out k (by rw [Hlen.out]; exact hlt)
      subst ha1; subst ha2
      have F1 := fun p : BelW wr.heap.size wr => (R1.out.below p.h).cells (k := k) (by rw [Hlen.out]; exact hlt)
      have F2 := fun p : BelW wr.heap.size wr => (R2.out.below p.h).cells (k := k) (by rw [Hlen.out]; exact hlt)
      have E := fun w => eqSr (srAt l k) w
      unfold Sr.val at E
      generalize srAt l k = r at F1 F2 E
      have f1_0 := fun p => (F1 p).1
      have f1_1 := fun p => (F1 p).2.1
      have f1_2 := fun p => (F1 p).2.2
      have f2_0 := fun p => (F2 p).1
      have f2_1 := fun p => (F2 p).2.1
      have f2_2 := fun p => (F2 p).2.2
      clear F1 F2
      have hlt' : (k : Int) < (len : Int) := by omega
      go_wp2
      haveI : Nonempty (BelW wr.heap.size wr) := ⟨⟨wr, Below.refl _ _⟩⟩
      refine region_below wr.heap.size (by kernel_rfl) (by kernel_rfl) ?_
      repeat (quiet_step ((go_at_call 64; refine quiet_below (Nat.le_refl _) (E _))))
      refine wpQuiet_nil ?_
      intro wq hx
      have hq := BelW.out hx
      have B : Hid (Below w.heap.size w wq) := hb.out.trans (hq.mono hb.out.size)
      clear hx hq f1_0 f1_1 f1_2 f2_0 f2_1 f2_2
      go_wp2
      go_roundw
      case rel => exact ⟨k + 1, by omega, by go_num, B⟩
      case measure => simp [intOf]; omega
    · go_wp2
      go_ret
      exact ⟨rfl, hb.out⟩

end Go.Proofs.Ytfkkmjejmflgjaa

/-
  What the laws do to see whose memory a list of records (Steer) is: numbers put into it and looked for again. By the verifier, by program.
-/
namespace Go.Proofs.Ytfkkmjejmflgjaa
open Go.RowKit

def srMkF (s : Int) (i : Nat) : Sr := ⟨s + 3 * (i : Int), s + 3 * (i : Int) + 1, s + 3 * (i : Int) + 2⟩
def srMksF (s : Int) (L : List Sr) (j : Nat) : List Sr := (List.range j).map (srMkF s) ++ L.drop j
theorem srMksF_length (s : Int) (L : List Sr) (j : Nat) (h : j ≤ L.length) : (srMksF s L j).length = L.length := by simp [srMksF]; omega
theorem srMksF_zero (s : Int) (L : List Sr) : srMksF s L 0 = L := by simp [srMksF]
theorem srMksF_step (s : Int) (L : List Sr) (j : Nat) (h : j < L.length) : (srMksF s L j).set j (srMkF s j) = srMksF s L (j + 1) := by
  unfold srMksF
  rw [List.set_append_right _ _ (by simp), List.range_succ, List.map_append]
  simp
  rw [List.drop_eq_getElem_cons h]
  rfl
theorem srMksF_end (s : Int) (L : List Sr) (j : Nat) (hj : j < L.length) : srAt (srMksF s L L.length) j = srMkF s j := by
  have : j < L.length := hj
  simp [srMksF, srAt, this]
end Go.Proofs.Ytfkkmjejmflgjaa

/-
  The numbers that were put into a list of records (Steer), looked for again. By the verifier, by program.
-/
namespace Go.Proofs.Ytfkkmjejmflgjaa
open Go.RowKit

set_option maxHeartbeats 3200000 in
set_option maxRecDepth 100000 in
theorem heldSrsF (s : Int) (s0 : 0 ≤ s) (s1 : s ≤ 1099511627776) (a : Option Addr) (cap : Nat) (T : List Sr) (hT : T.length ≤ 1048576) (w : World) (H : Hid (SrsAt w a (srMksF s T T.length))) :
    Calls Try.prog 43 #[.slice a T.length cap, .int .i64 s] w fun e w' => e = .returned (.int .i64 (s + 3 * (T.length : Int))) ∧ w' = w := by
  have Hc : Hid (∀ j, j < T.length → ∃ b off, a = some ⟨b, off, none⟩ ∧ ∀ kv : Int, kv = s + 3 * (j : Int) → w.cell? ⟨b, off + j * 3, none⟩ = some (.int .i64 (kv)) ∧ w.cell? ⟨b, off + j * 3 + 1, none⟩ = some (.int .i64 (kv + 1)) ∧ w.cell? ⟨b, off + j * 3 + 2, none⟩ = some (.int .i64 (kv + 2))) := by
    show ∀ j, j < T.length → _
    intro j hj
    obtain ⟨b, off, e, _, c0, c1, c2⟩ := H.out j (by rw [srMksF_length s T _ (Nat.le_refl _)]; exact hj)
    rw [srMksF_end s T j hj] at c0 c1 c2
    refine ⟨b, off, e, fun kv hkv => ?_⟩
    subst hkv
    exact ⟨c0, c1, c2⟩
  generalize T.length = len at hT Hc ⊢
  clear H
  go_enter Try.func43, Try.ntmps43
  go_wp2
  go_loop [1, 5] (fun kk i => ∃ (j : Nat) (kv : Int), j ≤ len ∧ i = .int .i64 j ∧ kk = .int .i64 kv ∧ kv = s + 3 * (j : Int)) (fun _ i => len - (intOf i).toNat)
  case atStart => exact ⟨0, s, Nat.zero_le _, rfl, rfl, by simp⟩
  case round =>
    obtain ⟨j, kv, hj, rfl, rfl, hkv⟩ := hrel
    have Hkv : Hid (kv = s + 3 * (j : Int)) := hkv
    have k0 : 0 ≤ kv := by omega
    have k1 : kv ≤ 1099514773504 := by omega
    by_cases hlt : j < len
    · obtain ⟨b, off, ha, hc⟩ := Hc.out j hlt
      obtain ⟨c0, c1, c2⟩ := hc kv hkv
      subst ha
      clear hkv hc
      go_wp2
      go_round
      case rel => exact ⟨j + 1, kv + 3, by omega, by go_num, by go_num, by rw [Hkv.out]; push_cast; omega⟩
      case measure => simp [intOf]; omega
    · obtain rfl : j = len := by omega
      clear hkv
      go_wp2
      go_ret
      exact ⟨by rw [← Hkv.out]; rfl, rfl⟩
end Go.Proofs.Ytfkkmjejmflgjaa

/-
  Numbers put into lists of records (Steer) that lie wherever. By the verifier, by program.
-/
namespace Go.Proofs.Ytfkkmjejmflgjaa
open Go.RowKit

set_option maxHeartbeats 6400000 in
set_option maxRecDepth 100000 in
theorem markSrsG (s : Int) (s0 : 0 ≤ s) (s1 : s ≤ 1099511627776) (b t : Nat) (v : Value) (T : List Sr) (hT : T.length ≤ 1048576) (w : World) (H : Hid (SrIn b t w v T)) :
    Calls Try.prog 36 #[v, .int .i64 s] w fun e w' => e = .returned (.int .i64 (s + 3 * (T.length : Int))) ∧ SrIn b t w' v (srMksF s T T.length) ∧ Turn (Hits v (T.length * 3)) w w' := by
  obtain ⟨a, cap, rfl⟩ := SlIn.shape H.out
  obtain ⟨len, hlen⟩ : ∃ n, T.length = n := ⟨_, rfl⟩
  have hcl := srcells_length T
  have H : Hid (SlIn b t w (.slice a len cap) len (srcells T)) := by
    have h := H.out
    unfold SrIn at h
    rw [hlen] at h
    exact h
  rw [hlen] at hT ⊢
  have Hlen : Hid (T.length = len) := hlen
  have Hcl : Hid (∀ j, j ≤ len → (srcells (srMksF s T j)).length = len * 3) := fun j hj => by rw [srcells_length, srMksF_length s T j (by rw [Hlen.out]; exact hj), Hlen.out]
  clear hlen hcl
  go_enter Try.func36, Try.ntmps36
  go_wp2
  go_loopw [1, 5] (fun kk i wr => ∃ (j : Nat) (kv : Int), j ≤ len ∧ i = .int .i64 j ∧ kk = .int .i64 kv ∧ kv = s + 3 * (j : Int) ∧ Hid (SlIn b t wr (.slice a len cap) len (srcells (srMksF s T j)) ∧ Turn (Hits (.slice a len cap) (len * 3)) w wr)) (fun _ i _ => len - (intOf i).toNat)
  case atStart => exact ⟨0, s, Nat.zero_le _, rfl, rfl, by simp, by rw [srMksF_zero]; exact H.out, Turn.refl _ _⟩
  case round =>
    obtain ⟨j, kv, hj, rfl, rfl, hkv, H2⟩ := hrel
    have Hkv : Hid (kv = s + 3 * (j : Int)) := hkv
    have k0 : 0 ≤ kv := by omega
    have k1 : kv ≤ 1099514773504 := by omega
    by_cases hlt : j < len
    · have hcl := Hcl.out j hj
      obtain ⟨g, off, ha, h1, h2, h3⟩ := SlIn.some H2.out.1 (by intro e; rw [e] at hcl; simp at hcl; omega)
      subst ha
      have em : srMkF s j = ⟨kv, kv + 1, kv + 1 + 1⟩ := by
        rw [hkv]
        unfold srMkF
        simp only [Sr.mk.injEq]
        refine ⟨by first | trivial | omega, by first | trivial | omega, by first | trivial | omega⟩
      have hput := H2.out.1
      have hput := SlIn.put hput (j * 3) (by omega) (.int .i64 (kv))
      have hput := SlIn.put hput (j * 3 + 1) (by simp only [List.length_set]; omega) (.int .i64 (kv + 1))
      have hput := SlIn.put hput (j * 3 + 2) (by simp only [List.length_set]; omega) (.int .i64 (kv + 1 + 1))
      have hset := srcells_set (srMksF s T j) j (srMkF s j)
      rw [srMksF_step s T j (by rw [Hlen.out]; exact hlt)] at hset
      simp only [em] at hset
      rw [hset] at hput
      have z0 := (SlIn.cells H2.out.1 (j * 3) (by omega)).2
      have y0 := (SlIn.cells H2.out.1 (j * 3) (by omega)).1
      have z1 := (SlIn.cells H2.out.1 (j * 3 + 1) (by omega)).2
      have y1 := (SlIn.cells H2.out.1 (j * 3 + 1) (by omega)).1
      have z2 := (SlIn.cells H2.out.1 (j * 3 + 2) (by omega)).2
      have y2 := (SlIn.cells H2.out.1 (j * 3 + 2) (by omega)).1
      simp only [← Nat.add_assoc] at hput z0 y0 z1 y1 z2 y2
      have H3 : Hid (SlIn b t (((wr.setCell ⟨g, off + j * 3, none⟩ (.int .i64 (kv))).setCell ⟨g, off + j * 3 + 1, none⟩ (.int .i64 (kv + 1))).setCell ⟨g, off + j * 3 + 2, none⟩ (.int .i64 (kv + 1 + 1))) (.slice (some ⟨g, off, none⟩) len cap) len (srcells (srMksF s T (j + 1))) ∧ Turn (Hits (.slice (some ⟨g, off, none⟩) len cap) (len * 3)) w (((wr.setCell ⟨g, off + j * 3, none⟩ (.int .i64 (kv))).setCell ⟨g, off + j * 3 + 1, none⟩ (.int .i64 (kv + 1))).setCell ⟨g, off + j * 3 + 2, none⟩ (.int .i64 (kv + 1 + 1)))) := by
        refine ⟨hput, H2.out.2.trans ?_⟩
        refine (Turn.trans (Turn.trans ((turn_set _ _ _ _).wide ?_) ((turn_set _ _ _ _).wide ?_)) ((turn_set _ _ _ _).wide ?_))
        all_goals (rintro k o ⟨rfl, rfl⟩; exact ⟨off, len, cap, rfl, by omega, by omega⟩)
      generalize (srcells (srMksF s T j))[j * 3]?.getD undef = u0 at y0; generalize (srcells (srMksF s T j))[j * 3 + 1]?.getD undef = u1 at y1; generalize (srcells (srMksF s T j))[j * 3 + 2]?.getD undef = u2 at y2
      clear hput hset hkv em hcl h1 h2 h3
      go_wp2
      go_roundw
      case rel => exact ⟨j + 1, kv + 3, by omega, by go_num, by go_num, by rw [Hkv.out]; push_cast; omega, H3⟩
      case measure => simp [intOf]; omega
    · obtain rfl : j = len := by omega
      go_wp2
      go_ret
      refine ⟨by rw [← Hkv.out]; rfl, ?_, H2.out.2⟩
      have h := H2.out.1
      unfold SrIn
      rw [srMksF_length s T _ (by rw [Hlen.out]; omega), Hlen.out]
      exact h
end Go.Proofs.Ytfkkmjejmflgjaa

/-
  Lists (Steer) as values with memory: what the laws' own functions do on them, numbers from any one on. By the verifier, by program.
-/
namespace Go.Proofs.Ytfkkmjejmflgjaa
open Go.RowKit

def srMkS (s : Int) (l : List Sr) : List Sr := srMksF s l l.length
theorem srMkS_length (s : Int) (l : List Sr) : (srMkS s l).length = l.length := srMksF_length s l l.length (Nat.le_refl _)
theorem eqSrW (v1 v2 : Value) (l : List Sr) (w : World) (hT : l.length ≤ 1048576) (h1 : Hid (SrsV w v1 l)) (h2 : Hid (SrsV w v2 l)) :
    Calls Try.prog 30 #[v1, v2] w fun e w' => e = .returned (.bool true) ∧ Below w.heap.size w w' := by
  obtain ⟨a1, c1, rfl, k1, _⟩ := h1.out
  obtain ⟨a2, c2, rfl, k2, _⟩ := h2.out
  exact eqSrs a1 a2 c1 c2 l w hT k1 k2
theorem markSrS (s : Int) (s0 : 0 ≤ s) (s1 : s ≤ 549755813888) (b t : Nat) (v : Value) (l : List Sr) (w : World) (hT : l.length ≤ 1048576) (H : Hid (SrsW b t w v l)) :
    Calls Try.prog 36 #[v, .int .i64 s] w fun e w' => e = .returned (.int .i64 (s + 3 * (l.length : Int))) ∧ SrsW b t w' v (srMkS s l) ∧ Span b t w w' :=
  (markSrsG s (by omega) (by omega) b t v l hT w H.out.1).mono fun e w' hh => by
    obtain ⟨rfl, h1, h2⟩ := hh
    obtain ⟨a, c, rfl, hc⟩ := H.out.2
    refine ⟨rfl, ⟨h1, a, c, by rw [srMkS_length], by rw [srMkS_length]; exact hc⟩, Span.of_turn h2 fun k o hh => ?_⟩
    have := SlIn.in H.out.1 (k := k) (o := o)
    rw [srcells_length] at this
    exact this hh
theorem heldSrS (s : Int) (s0 : 0 ≤ s) (s1 : s ≤ 549755813888) (v : Value) (l : List Sr) (w : World) (hT : l.length ≤ 1048576) (H : Hid (SrsV w v (srMkS s l))) :
    Calls Try.prog 43 #[v, .int .i64 s] w fun e w' => e = .returned (.int .i64 (s + 3 * (l.length : Int))) ∧ Below w.heap.size w w' := by
  obtain ⟨a, c, rfl, k, _⟩ := H.out
  rw [srMkS_length]
  exact (heldSrsF s (by omega) (by omega) a c l hT w k).mono fun e w' hh => ⟨hh.1, by rw [hh.2]; exact Below.refl _ _⟩
end Go.Proofs.Ytfkkmjejmflgjaa
