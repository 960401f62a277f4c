import Derived.Test.YtfkkmjejmflgjaaQ4RuV
import Derived.RegionTactic
import Derived.WalkKit
import Derived.Test.YtfkkmjejmflgjaaQ3RtNet
import Derived.Test.YtfkkmjejmflgjaaQ11Quiet
import Derived.Test.YtfkkmjejmflgjaaQ28IzMark
/-
  The walk of the laws' comparison of records (Rule), where both hold the same. By the verifier, by program.
-/
namespace Go.Proofs.Ytfkkmjejmflgjaa
open Go.RowKit

set_option maxHeartbeats 1600000 in
theorem eqRu (r : Ru) (w : World) :
    Calls Try.prog 62 #[r.val, r.val] w fun e w' => e = .returned (.bool true) ∧ Below w.heap.size w w' := by
  unfold Ru.val
  obtain ⟨v0, v1, v2, v3, v4, v5, v6, v7, v8, v9⟩ := r
  simp only []
  go_enter Try.func62, Try.ntmps62
  go_wp2
  go_ret
  exact ⟨rfl, ((Below.refl _ w).alloc (Nat.le_refl _) _).alloc (by simp) _⟩
end Go.Proofs.Ytfkkmjejmflgjaa

/-
  The walks of the laws' copies of lists of records (Rule), of their sizes, and of their comparisons where both hold the same. By the verifier, by program.
-/
namespace Go.Proofs.Ytfkkmjejmflgjaa
open Go.RowKit

set_option maxHeartbeats 3200000 in
set_option maxRecDepth 100000 in
theorem eqRus (a1 a2 : Option Addr) (cap1 cap2 : Nat) (l : List Ru) (w : World) (hT : l.length ≤ 1048576) (h1 : Hid (RusAt w a1 l)) (h2 : Hid (RusAt w a2 l)) :
    Calls Try.prog 28 #[.slice a1 l.length cap1, .slice a2 l.length cap2] w fun e w' => e = .returned (.bool true) ∧ Below w.heap.size w w' := by
  obtain ⟨len, hlen⟩ : ∃ n, l.length = n := ⟨_, rfl⟩
  rw [hlen] at hT ⊢
  have Hlen : Hid (l.length = len) := hlen
  clear hlen
  go_enter Try.func28, Try.ntmps28
  go_wp2
  go_loopw [5] (fun i wr => ∃ k : Nat, k ≤ len ∧ i = .int .i64 k ∧ Hid (Below w.heap.size w wr)) (fun i _ => len - (intOf i).toNat)
  case atStart => exact ⟨0, Nat.zero_le _, rfl, Below.refl _ _⟩
  case round =>
    obtain ⟨k, hk, rfl, hb⟩ := hrel
    by_cases hlt : k < len
    · have R1 : Hid (RusAt wr a1 l) := h1.out.below hb.out
      have R2 : Hid (RusAt wr a2 l) := h2.out.below hb.out
      obtain ⟨b1, o1, ha1, -⟩ := R1.out k (by rw [Hlen.out]; exact hlt)
      obtain ⟨b2, o2, ha2, -⟩ := R2.out k (by rw [Hlen.out]; exact hlt)
      subst ha1; subst ha2
      have F1 := fun p : BelW wr.heap.size wr => (R1.out.below p.h).cells (k := k) (by rw [Hlen.out]; exact hlt)
      have F2 := fun p : BelW wr.heap.size wr => (R2.out.below p.h).cells (k := k) (by rw [Hlen.out]; exact hlt)
      have E := fun w => eqRu (ruAt l k) w
      unfold Ru.val at E
      generalize ruAt l k = r at F1 F2 E
      have f1_0 := fun p => (F1 p).1
      have f1_1 := fun p => (F1 p).2.1
      have f1_2 := fun p => (F1 p).2.2.1
      have f1_3 := fun p => (F1 p).2.2.2.1
      have f1_4 := fun p => (F1 p).2.2.2.2.1
      have f1_5 := fun p => (F1 p).2.2.2.2.2.1
      have f1_6 := fun p => (F1 p).2.2.2.2.2.2.1
      have f1_7 := fun p => (F1 p).2.2.2.2.2.2.2.1
      have f1_8 := fun p => (F1 p).2.2.2.2.2.2.2.2.1
      have f1_9 := fun p => (F1 p).2.2.2.2.2.2.2.2.2
      have f2_0 := fun p => (F2 p).1
      have f2_1 := fun p => (F2 p).2.1
      have f2_2 := fun p => (F2 p).2.2.1
      have f2_3 := fun p => (F2 p).2.2.2.1
      have f2_4 := fun p => (F2 p).2.2.2.2.1
      have f2_5 := fun p => (F2 p).2.2.2.2.2.1
      have f2_6 := fun p => (F2 p).2.2.2.2.2.2.1
      have f2_7 := fun p => (F2 p).2.2.2.2.2.2.2.1
      have f2_8 := fun p => (F2 p).2.2.2.2.2.2.2.2.1
      have f2_9 := fun p => (F2 p).2.2.2.2.2.2.2.2.2
      clear F1 F2
      have hlt' : (k : Int) < (len : Int) := by omega
      go_wp2
      haveI : Nonempty (BelW wr.heap.size wr) := ⟨⟨wr, Below.refl _ _⟩⟩
      refine region_below wr.heap.size (by kernel_rfl) (by kernel_rfl) ?_
      repeat (quiet_step ((go_at_call 62; refine quiet_below (Nat.le_refl _) (E _))))
      refine wpQuiet_nil ?_
      intro wq hx
      have hq := BelW.out hx
      have B : Hid (Below w.heap.size w wq) := hb.out.trans (hq.mono hb.out.size)
      clear hx hq f1_0 f1_1 f1_2 f1_3 f1_4 f1_5 f1_6 f1_7 f1_8 f1_9 f2_0 f2_1 f2_2 f2_3 f2_4 f2_5 f2_6 f2_7 f2_8 f2_9
      go_wp2
      go_roundw
      case rel => exact ⟨k + 1, by omega, by go_num, B⟩
      case measure => simp [intOf]; omega
    · go_wp2
      go_ret
      exact ⟨rfl, hb.out⟩

end Go.Proofs.Ytfkkmjejmflgjaa

/-
  What the laws do to see whose memory a list of records (Rule) is: numbers put into it and looked for again. By the verifier, by program.
-/
namespace Go.Proofs.Ytfkkmjejmflgjaa
open Go.RowKit

def ruMkF (s : Int) (i : Nat) : Ru := ⟨s + 10 * (i : Int), s + 10 * (i : Int) + 1, s + 10 * (i : Int) + 2, s + 10 * (i : Int) + 3, s + 10 * (i : Int) + 4, s + 10 * (i : Int) + 5, s + 10 * (i : Int) + 6, s + 10 * (i : Int) + 7, s + 10 * (i : Int) + 8, s + 10 * (i : Int) + 9⟩
def ruMksF (s : Int) (L : List Ru) (j : Nat) : List Ru := (List.range j).map (ruMkF s) ++ L.drop j
theorem ruMksF_length (s : Int) (L : List Ru) (j : Nat) (h : j ≤ L.length) : (ruMksF s L j).length = L.length := by simp [ruMksF]; omega
theorem ruMksF_zero (s : Int) (L : List Ru) : ruMksF s L 0 = L := by simp [ruMksF]
theorem ruMksF_step (s : Int) (L : List Ru) (j : Nat) (h : j < L.length) : (ruMksF s L j).set j (ruMkF s j) = ruMksF s L (j + 1) := by
  unfold ruMksF
  rw [List.set_append_right _ _ (by simp), List.range_succ, List.map_append]
  simp
  rw [List.drop_eq_getElem_cons h]
  rfl
theorem ruMksF_end (s : Int) (L : List Ru) (j : Nat) (hj : j < L.length) : ruAt (ruMksF s L L.length) j = ruMkF s j := by
  have : j < L.length := hj
  simp [ruMksF, ruAt, this]
end Go.Proofs.Ytfkkmjejmflgjaa

/-
  The numbers that were put into a list of records (Rule), looked for again. By the verifier, by program.
-/
namespace Go.Proofs.Ytfkkmjejmflgjaa
open Go.RowKit

set_option maxHeartbeats 3200000 in
set_option maxRecDepth 100000 in
theorem heldRusF (s : Int) (s0 : 0 ≤ s) (s1 : s ≤ 1099511627776) (a : Option Addr) (cap : Nat) (T : List Ru) (hT : T.length ≤ 1048576) (w : World) (H : Hid (RusAt w a (ruMksF s T T.length))) :
    Calls Try.prog 39 #[.slice a T.length cap, .int .i64 s] w fun e w' => e = .returned (.int .i64 (s + 10 * (T.length : Int))) ∧ w' = w := by
  have Hc : Hid (∀ j, j < T.length → ∃ b off, a = some ⟨b, off, none⟩ ∧ ∀ kv : Int, kv = s + 10 * (j : Int) → w.cell? ⟨b, off + j * 10, none⟩ = some (.int .i64 (kv)) ∧ w.cell? ⟨b, off + j * 10 + 1, none⟩ = some (.int .i64 (kv + 1)) ∧ w.cell? ⟨b, off + j * 10 + 2, none⟩ = some (.int .i64 (kv + 2)) ∧ w.cell? ⟨b, off + j * 10 + 3, none⟩ = some (.int .i64 (kv + 3)) ∧ w.cell? ⟨b, off + j * 10 + 4, none⟩ = some (.int .i64 (kv + 4)) ∧ w.cell? ⟨b, off + j * 10 + 5, none⟩ = some (.int .i64 (kv + 5)) ∧ w.cell? ⟨b, off + j * 10 + 6, none⟩ = some (.int .i64 (kv + 6)) ∧ w.cell? ⟨b, off + j * 10 + 7, none⟩ = some (.int .i64 (kv + 7)) ∧ w.cell? ⟨b, off + j * 10 + 8, none⟩ = some (.int .i64 (kv + 8)) ∧ w.cell? ⟨b, off + j * 10 + 9, none⟩ = some (.int .i64 (kv + 9))) := by
    show ∀ j, j < T.length → _
    intro j hj
    obtain ⟨b, off, e, _, c0, c1, c2, c3, c4, c5, c6, c7, c8, c9⟩ := H.out j (by rw [ruMksF_length s T _ (Nat.le_refl _)]; exact hj)
    rw [ruMksF_end s T j hj] at c0 c1 c2 c3 c4 c5 c6 c7 c8 c9
    refine ⟨b, off, e, fun kv hkv => ?_⟩
    subst hkv
    exact ⟨c0, c1, c2, c3, c4, c5, c6, c7, c8, c9⟩
  generalize T.length = len at hT Hc ⊢
  clear H
  go_enter Try.func39, Try.ntmps39
  go_wp2
  go_loop [1, 5] (fun kk i => ∃ (j : Nat) (kv : Int), j ≤ len ∧ i = .int .i64 j ∧ kk = .int .i64 kv ∧ kv = s + 10 * (j : Int)) (fun _ i => len - (intOf i).toNat)
  case atStart => exact ⟨0, s, Nat.zero_le _, rfl, rfl, by simp⟩
  case round =>
    obtain ⟨j, kv, hj, rfl, rfl, hkv⟩ := hrel
    have Hkv : Hid (kv = s + 10 * (j : Int)) := hkv
    have k0 : 0 ≤ kv := by omega
    have k1 : kv ≤ 1099522113536 := by omega
    by_cases hlt : j < len
    · obtain ⟨b, off, ha, hc⟩ := Hc.out j hlt
      obtain ⟨c0, c1, c2, c3, c4, c5, c6, c7, c8, c9⟩ := hc kv hkv
      subst ha
      clear hkv hc
      go_wp2
      go_round
      case rel => exact ⟨j + 1, kv + 10, by omega, by go_num, by go_num, by rw [Hkv.out]; push_cast; omega⟩
      case measure => simp [intOf]; omega
    · obtain rfl : j = len := by omega
      clear hkv
      go_wp2
      go_ret
      exact ⟨by rw [← Hkv.out]; rfl, rfl⟩
end Go.Proofs.Ytfkkmjejmflgjaa

/-
  Numbers put into lists of records (Rule) that lie wherever. By the verifier, by program.
-/
namespace Go.Proofs.Ytfkkmjejmflgjaa
open Go.RowKit

set_option maxHeartbeats 6400000 in
set_option maxRecDepth 100000 in
theorem markRusG (s : Int) (s0 : 0 ≤ s) (s1 : s ≤ 1099511627776) (b t : Nat) (v : Value) (T : List Ru) (hT : T.length ≤ 1048576) (w : World) (H : Hid (RuIn b t w v T)) :
    Calls Try.prog 34 #[v, .int .i64 s] w fun e w' => e = .returned (.int .i64 (s + 10 * (T.length : Int))) ∧ RuIn b t w' v (ruMksF s T T.length) ∧ Turn (Hits v (T.length * 10)) w w' := by
  obtain ⟨a, cap, rfl⟩ := SlIn.shape H.out
  obtain ⟨len, hlen⟩ : ∃ n, T.length = n := ⟨_, rfl⟩
  have hcl := rucells_length T
  have H : Hid (SlIn b t w (.slice a len cap) len (rucells T)) := by
    have h := H.out
    unfold RuIn at h
    rw [hlen] at h
    exact h
  rw [hlen] at hT ⊢
  have Hlen : Hid (T.length = len) := hlen
  have Hcl : Hid (∀ j, j ≤ len → (rucells (ruMksF s T j)).length = len * 10) := fun j hj => by rw [rucells_length, ruMksF_length s T j (by rw [Hlen.out]; exact hj), Hlen.out]
  clear hlen hcl
  go_enter Try.func34, Try.ntmps34
  go_wp2
  go_loopw [1, 5] (fun kk i wr => ∃ (j : Nat) (kv : Int), j ≤ len ∧ i = .int .i64 j ∧ kk = .int .i64 kv ∧ kv = s + 10 * (j : Int) ∧ Hid (SlIn b t wr (.slice a len cap) len (rucells (ruMksF s T j)) ∧ Turn (Hits (.slice a len cap) (len * 10)) w wr)) (fun _ i _ => len - (intOf i).toNat)
  case atStart => exact ⟨0, s, Nat.zero_le _, rfl, rfl, by simp, by rw [ruMksF_zero]; exact H.out, Turn.refl _ _⟩
  case round =>
    obtain ⟨j, kv, hj, rfl, rfl, hkv, H2⟩ := hrel
    have Hkv : Hid (kv = s + 10 * (j : Int)) := hkv
    have k0 : 0 ≤ kv := by omega
    have k1 : kv ≤ 1099522113536 := by omega
    by_cases hlt : j < len
    · have hcl := Hcl.out j hj
      obtain ⟨g, off, ha, h1, h2, h3⟩ := SlIn.some H2.out.1 (by intro e; rw [e] at hcl; simp at hcl; omega)
      subst ha
      have em : ruMkF s j = ⟨kv, kv + 1, kv + 1 + 1, kv + 1 + 1 + 1, kv + 1 + 1 + 1 + 1, kv + 1 + 1 + 1 + 1 + 1, kv + 1 + 1 + 1 + 1 + 1 + 1, kv + 1 + 1 + 1 + 1 + 1 + 1 + 1, kv + 1 + 1 + 1 + 1 + 1 + 1 + 1 + 1, kv + 1 + 1 + 1 + 1 + 1 + 1 + 1 + 1 + 1⟩ := by
        rw [hkv]
        unfold ruMkF
        simp only [Ru.mk.injEq]
        refine ⟨by first | trivial | omega, by first | trivial | omega, by first | trivial | omega, by first | trivial | omega, by first | trivial | omega, by first | trivial | omega, by first | trivial | omega, by first | trivial | omega, by first | trivial | omega, by first | trivial | omega⟩
      have hput := H2.out.1
      have hput := SlIn.put hput (j * 10) (by omega) (.int .i64 (kv))
      have hput := SlIn.put hput (j * 10 + 1) (by simp only [List.length_set]; omega) (.int .i64 (kv + 1))
      have hput := SlIn.put hput (j * 10 + 2) (by simp only [List.length_set]; omega) (.int .i64 (kv + 1 + 1))
      have hput := SlIn.put hput (j * 10 + 3) (by simp only [List.length_set]; omega) (.int .i64 (kv + 1 + 1 + 1))
      have hput := SlIn.put hput (j * 10 + 4) (by simp only [List.length_set]; omega) (.int .i64 (kv + 1 + 1 + 1 + 1))
      have hput := SlIn.put hput (j * 10 + 5) (by simp only [List.length_set]; omega) (.int .i64 (kv + 1 + 1 + 1 + 1 + 1))
      have hput := SlIn.put hput (j * 10 + 6) (by simp only [List.length_set]; omega) (.int .i64 (kv + 1 + 1 + 1 + 1 + 1 + 1))
      have hput := SlIn.put hput (j * 10 + 7) (by simp only [List.length_set]; omega) (.int .i64 (kv + 1 + 1 + 1 + 1 + 1 + 1 + 1))
      have hput := SlIn.put hput (j * 10 + 8) (by simp only [List.length_set]; omega) (.int .i64 (kv + 1 + 1 + 1 + 1 + 1 + 1 + 1 + 1))
      have hput := SlIn.put hput (j * 10 + 9) (by simp only [List.length_set]; omega) (.int .i64 (kv + 1 + 1 + 1 + 1 + 1 + 1 + 1 + 1 + 1))
      have hset := rucells_set (ruMksF s T j) j (ruMkF s j)
      rw [ruMksF_step s T j (by rw [Hlen.out]; exact hlt)] at hset
      simp only [em] at hset
      rw [hset] at hput
      have z0 := (SlIn.cells H2.out.1 (j * 10) (by omega)).2
      have y0 := (SlIn.cells H2.out.1 (j * 10) (by omega)).1
      have z1 := (SlIn.cells H2.out.1 (j * 10 + 1) (by omega)).2
      have y1 := (SlIn.cells H2.out.1 (j * 10 + 1) (by omega)).1
      have z2 := (SlIn.cells H2.out.1 (j * 10 + 2) (by omega)).2
      have y2 := (SlIn.cells H2.out.1 (j * 10 + 2) (by omega)).1
      have z3 := (SlIn.cells H2.out.1 (j * 10 + 3) (by omega)).2
      have y3 := (SlIn.cells H2.out.1 (j * 10 + 3) (by omega)).1
      have z4 := (SlIn.cells H2.out.1 (j * 10 + 4) (by omega)).2
      have y4 := (SlIn.cells H2.out.1 (j * 10 + 4) (by omega)).1
      have z5 := (SlIn.cells H2.out.1 (j * 10 + 5) (by omega)).2
      have y5 := (SlIn.cells H2.out.1 (j * 10 + 5) (by omega)).1
      have z6 := (SlIn.cells H2.out.1 (j * 10 + 6) (by omega)).2
      have y6 := (SlIn.cells H2.out.1 (j * 10 + 6) (by omega)).1
      have z7 := (SlIn.cells H2.out.1 (j * 10 + 7) (by omega)).2
      have y7 := (SlIn.cells H2.out.1 (j * 10 + 7) (by omega)).1
      have z8 := (SlIn.cells H2.out.1 (j * 10 + 8) (by omega)).2
      have y8 := (SlIn.cells H2.out.1 (j * 10 + 8) (by omega)).1
      have z9 := (SlIn.cells H2.out.1 (j * 10 + 9) (by omega)).2
      have y9 := (SlIn.cells H2.out.1 (j * 10 + 9) (by omega)).1
      simp only [← Nat.add_assoc] at hput z0 y0 z1 y1 z2 y2 z3 y3 z4 y4 z5 y5 z6 y6 z7 y7 z8 y8 z9 y9
      have H3 : Hid (SlIn b t ((((((((((wr.setCell ⟨g, off + j * 10, none⟩ (.int .i64 (kv))).setCell ⟨g, off + j * 10 + 1, none⟩ (.int .i64 (kv + 1))).setCell ⟨g, off + j * 10 + 2, none⟩ (.int .i64 (kv + 1 + 1))).setCell ⟨g, off + j * 10 + 3, none⟩ (.int .i64 (kv + 1 + 1 + 1))).setCell ⟨g, off + j * 10 + 4, none⟩ (.int .i64 (kv + 1 + 1 + 1 + 1))).setCell ⟨g, off + j * 10 + 5, none⟩ (.int .i64 (kv + 1 + 1 + 1 + 1 + 1))).setCell ⟨g, off + j * 10 + 6, none⟩ (.int .i64 (kv + 1 + 1 + 1 + 1 + 1 + 1))).setCell ⟨g, off + j * 10 + 7, none⟩ (.int .i64 (kv + 1 + 1 + 1 + 1 + 1 + 1 + 1))).setCell ⟨g, off + j * 10 + 8, none⟩ (.int .i64 (kv + 1 + 1 + 1 + 1 + 1 + 1 + 1 + 1))).setCell ⟨g, off + j * 10 + 9, none⟩ (.int .i64 (kv + 1 + 1 + 1 + 1 + 1 + 1 + 1 + 1 + 1))) (.slice (some ⟨g, off, none⟩) len cap) len (rucells (ruMksF s T (j + 1))) ∧ Turn (Hits (.slice (some ⟨g, off, none⟩) len cap) (len * 10)) w ((((((((((wr.setCell ⟨g, off + j * 10, none⟩ (.int .i64 (kv))).setCell ⟨g, off + j * 10 + 1, none⟩ (.int .i64 (kv + 1))).setCell ⟨g, off + j * 10 + 2, none⟩ (.int .i64 (kv + 1 + 1))).setCell ⟨g, off + j * 10 + 3, none⟩ (.int .i64 (kv + 1 + 1 + 1))).setCell ⟨g, off + j * 10 + 4, none⟩ (.int .i64 (kv + 1 + 1 + 1 + 1))).setCell ⟨g, off + j * 10 + 5, none⟩ (.int .i64 (kv + 1 + 1 + 1 + 1 + 1))).setCell ⟨g, off + j * 10 + 6, none⟩ (.int .i64 (kv + 1 + 1 + 1 + 1 + 1 + 1))).setCell ⟨g, off + j * 10 + 7, none⟩ (.int .i64 (kv + 1 + 1 + 1 + 1 + 1 + 1 + 1))).setCell ⟨g, off + j * 10 + 8, none⟩ (.int .i64 (kv + 1 + 1 + 1 + 1 + 1 + 1 + 1 + 1))).setCell ⟨g, off + j * 10 + 9, none⟩ (.int .i64 (kv + 1 + 1 + 1 + 1 + 1 + 1 + 1 + 1 + 1)))) := by
        refine ⟨hput, H2.out.2.trans ?_⟩
        refine (Turn.trans (Turn.trans (Turn.trans (Turn.trans (Turn.trans (Turn.trans (Turn.trans (Turn.trans (Turn.trans ((turn_set _ _ _ _).wide ?_) ((turn_set _ _ _ _).wide ?_)) ((turn_set _ _ _ _).wide ?_)) ((turn_set _ _ _ _).wide ?_)) ((turn_set _ _ _ _).wide ?_)) ((turn_set _ _ _ _).wide ?_)) ((turn_set _ _ _ _).wide ?_)) ((turn_set _ _ _ _).wide ?_)) ((turn_set _ _ _ _).wide ?_)) ((turn_set _ _ _ _).wide ?_))
        all_goals (rintro k o ⟨rfl, rfl⟩; exact ⟨off, len, cap, rfl, by omega, by omega⟩)
      generalize (rucells (ruMksF s T j))[j * 10]?.getD undef = u0 at y0; generalize (rucells (ruMksF s T j))[j * 10 + 1]?.getD undef = u1 at y1; generalize (rucells (ruMksF s T j))[j * 10 + 2]?.getD undef = u2 at y2; generalize (rucells (ruMksF s T j))[j * 10 + 3]?.getD undef = u3 at y3; generalize (rucells (ruMksF s T j))[j * 10 + 4]?.getD undef = u4 at y4; generalize (rucells (ruMksF s T j))[j * 10 + 5]?.getD undef = u5 at y5; generalize (rucells (ruMksF s T j))[j * 10 + 6]?.getD undef = u6 at y6; generalize (rucells (ruMksF s T j))[j * 10 + 7]?.getD undef = u7 at y7; generalize (rucells (ruMksF s T j))[j * 10 + 8]?.getD undef = u8 at y8; generalize (rucells (ruMksF s T j))[j * 10 + 9]?.getD undef = u9 at y9
      clear hput hset hkv em hcl h1 h2 h3
      go_wp2
      go_roundw
      case rel => exact ⟨j + 1, kv + 10, by omega, by go_num, by go_num, by rw [Hkv.out]; push_cast; omega, H3⟩
      case measure => simp [intOf]; omega
    · obtain rfl : j = len := by omega
      go_wp2
      go_ret
      refine ⟨by rw [← Hkv.out]; rfl, ?_, H2.out.2⟩
      have h := H2.out.1
      unfold RuIn
      rw [ruMksF_length s T _ (by rw [Hlen.out]; omega), Hlen.out]
      exact h
end Go.Proofs.Ytfkkmjejmflgjaa

/-
  Lists (Rule) as values with memory: what the laws' own functions do on them, numbers from any one on. By the verifier, by program.
-/
namespace Go.Proofs.Ytfkkmjejmflgjaa
open Go.RowKit

def ruMkS (s : Int) (l : List Ru) : List Ru := ruMksF s l l.length
theorem ruMkS_length (s : Int) (l : List Ru) : (ruMkS s l).length = l.length := ruMksF_length s l l.length (Nat.le_refl _)
theorem eqRuW (v1 v2 : Value) (l : List Ru) (w : World) (hT : l.length ≤ 1048576) (h1 : Hid (RusV w v1 l)) (h2 : Hid (RusV w v2 l)) :
    Calls Try.prog 28 #[v1, v2] w fun e w' => e = .returned (.bool true) ∧ Below w.heap.size w w' := by
  obtain ⟨a1, c1, rfl, k1, _⟩ := h1.out
  obtain ⟨a2, c2, rfl, k2, _⟩ := h2.out
  exact eqRus a1 a2 c1 c2 l w hT k1 k2
theorem markRuS (s : Int) (s0 : 0 ≤ s) (s1 : s ≤ 549755813888) (b t : Nat) (v : Value) (l : List Ru) (w : World) (hT : l.length ≤ 1048576) (H : Hid (RusW b t w v l)) :
    Calls Try.prog 34 #[v, .int .i64 s] w fun e w' => e = .returned (.int .i64 (s + 10 * (l.length : Int))) ∧ RusW b t w' v (ruMkS s l) ∧ Span b t w w' :=
  (markRusG s (by omega) (by omega) b t v l hT w H.out.1).mono fun e w' hh => by
    obtain ⟨rfl, h1, h2⟩ := hh
    obtain ⟨a, c, rfl, hc⟩ := H.out.2
    refine ⟨rfl, ⟨h1, a, c, by rw [ruMkS_length], by rw [ruMkS_length]; exact hc⟩, Span.of_turn h2 fun k o hh => ?_⟩
    have := SlIn.in H.out.1 (k := k) (o := o)
    rw [rucells_length] at this
    exact this hh
theorem heldRuS (s : Int) (s0 : 0 ≤ s) (s1 : s ≤ 549755813888) (v : Value) (l : List Ru) (w : World) (hT : l.length ≤ 1048576) (H : Hid (RusV w v (ruMkS s l))) :
    Calls Try.prog 39 #[v, .int .i64 s] w fun e w' => e = .returned (.int .i64 (s + 10 * (l.length : Int))) ∧ Below w.heap.size w w' := by
  obtain ⟨a, c, rfl, k, _⟩ := H.out
  rw [ruMkS_length]
  exact (heldRusF s (by omega) (by omega) a c l hT w k).mono fun e w' hh => ⟨hh.1, by rw [hh.2]; exact Below.refl _ _⟩
end Go.Proofs.Ytfkkmjejmflgjaa
