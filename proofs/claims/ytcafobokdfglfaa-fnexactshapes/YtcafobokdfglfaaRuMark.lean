/-
  What the laws do to see whose memory a list of records (Rule) is: numbers put into it and looked for again. By the verifier, by program.
-/
import Derived.Test.YtcafobokdfglfaaRuPlain
import Derived.Test.YtcafobokdfglfaaOth
import Derived.WalkKit
namespace Go.Proofs.Ytcafobokdfglfaa
open Go.RowKit

def ruMk (i : Nat) : Ru := ⟨1 + 10 * (i : Int), 1 + 10 * (i : Int) + 1, 1 + 10 * (i : Int) + 2, 1 + 10 * (i : Int) + 3, 1 + 10 * (i : Int) + 4, 1 + 10 * (i : Int) + 5, 1 + 10 * (i : Int) + 6, 1 + 10 * (i : Int) + 7, 1 + 10 * (i : Int) + 8, 1 + 10 * (i : Int) + 9⟩
def ruMks (L : List Ru) (j : Nat) : List Ru := (List.range j).map ruMk ++ L.drop j
theorem ruMks_length (L : List Ru) (j : Nat) (h : j ≤ L.length) : (ruMks L j).length = L.length := by simp [ruMks]; omega
theorem ruMks_zero (L : List Ru) : ruMks L 0 = L := by simp [ruMks]
theorem ruMks_step (L : List Ru) (j : Nat) (h : j < L.length) : (ruMks L j).set j (ruMk j) = ruMks L (j + 1) := by
  unfold ruMks
  rw [List.set_append_right _ _ (by simp), List.range_succ, List.map_append]
  simp
  rw [List.drop_eq_getElem_cons h]
  rfl
theorem ruMks_end (L : List Ru) (j : Nat) (hj : j < L.length) : ruAt (ruMks L L.length) j = ruMk j := by
  have : j < L.length := hj
  simp [ruMks, ruAt, this]
set_option maxHeartbeats 6400000 in
set_option maxRecDepth 100000 in
theorem markRus (base : Nat) (a : Option Addr) (cap : Nat) (T : List Ru) (hT : T.length ≤ 1048576) (w : World) (H : Hid (RuRow base w (.slice a T.length cap) T)) :
    Calls Try.prog 25 #[.slice a T.length cap, .int .i64 1] w fun e w' => e = .returned (.int .i64 (1 + 10 * (T.length : Int))) ∧ RuRow base w' (.slice a T.length cap) (ruMks T T.length) ∧ Below base w w' ∧ Oth (.slice a T.length cap) w w' := by
  obtain ⟨len, hlen⟩ : ∃ n, T.length = n := ⟨_, rfl⟩
  have H : Hid (w.ownsRow base 36 10 (.slice a len cap) len (rucells T)) := by
    have h := H.out
    unfold RuRow at h
    rw [hlen] at h
    exact h
  rw [hlen] at hT ⊢
  have Hlen : Hid (T.length = len) := hlen
  clear hlen
  go_enter Try.func25, Try.ntmps25
  go_wp2
  go_loopw [1, 5] (fun kk i wr => ∃ (j : Nat) (kv : Int), j ≤ len ∧ i = .int .i64 j ∧ kk = .int .i64 kv ∧ kv = 1 + 10 * (j : Int) ∧ Hid (wr.ownsRow base 36 10 (.slice a len cap) len (rucells (ruMks T j)) ∧ Below base w wr ∧ Oth (.slice a len cap) w wr)) (fun _ i _ => len - (intOf i).toNat)
  case atStart => exact ⟨0, 1, Nat.zero_le _, rfl, rfl, by simp, by rw [ruMks_zero]; exact H.out, Below.refl _ _, Oth.refl _ _⟩
  case round =>
    obtain ⟨j, kv, hj, rfl, rfl, hkv, H2⟩ := hrel
    have Hkv : Hid (kv = 1 + 10 * (j : Int)) := hkv
    have k0 : 0 ≤ kv := by omega
    have k1 : kv ≤ 10485761 := by omega
    by_cases hlt : j < len
    · obtain ⟨g, ha⟩ : ∃ g, a = some ⟨g, 0, none⟩ := by
        rcases H2.out.1.2 with ⟨e, _⟩ | ⟨g, cap', cur, e, _⟩
        · cases e; omega
        · cases e; exact ⟨g, rfl⟩
      subst ha
      have hput := RuRow.put (l := ruMks T j) H2.out.1 j (ruMk j)
      rw [ruMks_step T j (by rw [Hlen.out]; exact hlt)] at hput
      have em : ruMk j = ⟨kv, kv + 1, kv + 1 + 1, kv + 1 + 1 + 1, kv + 1 + 1 + 1 + 1, kv + 1 + 1 + 1 + 1 + 1, kv + 1 + 1 + 1 + 1 + 1 + 1, kv + 1 + 1 + 1 + 1 + 1 + 1 + 1, kv + 1 + 1 + 1 + 1 + 1 + 1 + 1 + 1, kv + 1 + 1 + 1 + 1 + 1 + 1 + 1 + 1 + 1⟩ := by
        rw [hkv]
        unfold ruMk
        simp only [Ru.mk.injEq]
        refine ⟨by first | trivial | omega, by first | trivial | omega, by first | trivial | omega, by first | trivial | omega, by first | trivial | omega, by first | trivial | omega, by first | trivial | omega, by first | trivial | omega, by first | trivial | omega, by first | trivial | omega⟩
      rw [em] at hput
      have hblk := (World.ownsRow.lt H2.out.1 g rfl).1
      have ex : ∀ q, q < len * 10 → ∃ v, wr.cell? ⟨g, q, none⟩ = some v := by
        intro q hq
        rw [H2.out.1.cellAt q hq]
        exact ⟨_, List.getElem?_eq_getElem (by rw [rucells_length, ruMks_length T j (by rw [Hlen.out]; omega), Hlen.out]; exact hq)⟩
      obtain ⟨y0, hy0⟩ := ex (j * 10) (by omega)
      obtain ⟨y1, hy1⟩ := ex (j * 10 + 1) (by omega)
      obtain ⟨y2, hy2⟩ := ex (j * 10 + 2) (by omega)
      obtain ⟨y3, hy3⟩ := ex (j * 10 + 3) (by omega)
      obtain ⟨y4, hy4⟩ := ex (j * 10 + 4) (by omega)
      obtain ⟨y5, hy5⟩ := ex (j * 10 + 5) (by omega)
      obtain ⟨y6, hy6⟩ := ex (j * 10 + 6) (by omega)
      obtain ⟨y7, hy7⟩ := ex (j * 10 + 7) (by omega)
      obtain ⟨y8, hy8⟩ := ex (j * 10 + 8) (by omega)
      obtain ⟨y9, hy9⟩ := ex (j * 10 + 9) (by omega)
      have z0 := H2.out.1.frozenAt (j * 10)
      have z1 := H2.out.1.frozenAt (j * 10 + 1)
      have z2 := H2.out.1.frozenAt (j * 10 + 2)
      have z3 := H2.out.1.frozenAt (j * 10 + 3)
      have z4 := H2.out.1.frozenAt (j * 10 + 4)
      have z5 := H2.out.1.frozenAt (j * 10 + 5)
      have z6 := H2.out.1.frozenAt (j * 10 + 6)
      have z7 := H2.out.1.frozenAt (j * 10 + 7)
      have z8 := H2.out.1.frozenAt (j * 10 + 8)
      have z9 := H2.out.1.frozenAt (j * 10 + 9)
      have H3 : Hid (_ ∧ Below base w ((((((((((wr.setCell ⟨g, j * 10, none⟩ (.int .i64 (kv))).setCell ⟨g, j * 10 + 1, none⟩ (.int .i64 (kv + 1))).setCell ⟨g, j * 10 + 2, none⟩ (.int .i64 (kv + 1 + 1))).setCell ⟨g, j * 10 + 3, none⟩ (.int .i64 (kv + 1 + 1 + 1))).setCell ⟨g, j * 10 + 4, none⟩ (.int .i64 (kv + 1 + 1 + 1 + 1))).setCell ⟨g, j * 10 + 5, none⟩ (.int .i64 (kv + 1 + 1 + 1 + 1 + 1))).setCell ⟨g, j * 10 + 6, none⟩ (.int .i64 (kv + 1 + 1 + 1 + 1 + 1 + 1))).setCell ⟨g, j * 10 + 7, none⟩ (.int .i64 (kv + 1 + 1 + 1 + 1 + 1 + 1 + 1))).setCell ⟨g, j * 10 + 8, none⟩ (.int .i64 (kv + 1 + 1 + 1 + 1 + 1 + 1 + 1 + 1))).setCell ⟨g, j * 10 + 9, none⟩ (.int .i64 (kv + 1 + 1 + 1 + 1 + 1 + 1 + 1 + 1 + 1))) ∧ Oth (.slice (some ⟨g, 0, none⟩) len cap) w ((((((((((wr.setCell ⟨g, j * 10, none⟩ (.int .i64 (kv))).setCell ⟨g, j * 10 + 1, none⟩ (.int .i64 (kv + 1))).setCell ⟨g, j * 10 + 2, none⟩ (.int .i64 (kv + 1 + 1))).setCell ⟨g, j * 10 + 3, none⟩ (.int .i64 (kv + 1 + 1 + 1))).setCell ⟨g, j * 10 + 4, none⟩ (.int .i64 (kv + 1 + 1 + 1 + 1))).setCell ⟨g, j * 10 + 5, none⟩ (.int .i64 (kv + 1 + 1 + 1 + 1 + 1))).setCell ⟨g, j * 10 + 6, none⟩ (.int .i64 (kv + 1 + 1 + 1 + 1 + 1 + 1))).setCell ⟨g, j * 10 + 7, none⟩ (.int .i64 (kv + 1 + 1 + 1 + 1 + 1 + 1 + 1))).setCell ⟨g, j * 10 + 8, none⟩ (.int .i64 (kv + 1 + 1 + 1 + 1 + 1 + 1 + 1 + 1))).setCell ⟨g, j * 10 + 9, none⟩ (.int .i64 (kv + 1 + 1 + 1 + 1 + 1 + 1 + 1 + 1 + 1)))) := ⟨hput, (((((((((H2.out.2.1.setCell hblk _).setCell hblk _).setCell hblk _).setCell hblk _).setCell hblk _).setCell hblk _).setCell hblk _).setCell hblk _).setCell hblk _).setCell hblk _, H2.out.2.2.set.set.set.set.set.set.set.set.set.set⟩
      clear hput hblk ex hkv em
      go_wp2
      go_roundw
      case rel => exact ⟨j + 1, kv + 10, by omega, by go_num, by go_num, by rw [Hkv.out]; push_cast; omega, H3⟩
      case measure => simp [intOf]; omega
    · obtain rfl : j = len := by omega
      go_wp2
      go_ret
      refine ⟨by rw [← Hkv.out]; rfl, ?_, H2.out.2⟩
      have h := H2.out.1
      unfold RuRow
      rw [ruMks_length T _ (by rw [Hlen.out]; omega), Hlen.out]
      exact h
end Go.Proofs.Ytcafobokdfglfaa
