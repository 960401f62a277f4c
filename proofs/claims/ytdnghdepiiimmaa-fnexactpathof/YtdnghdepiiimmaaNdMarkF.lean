/-
  What the laws do to see whose memory a list of records (Node) is: numbers put into it and looked for again. By the verifier, by program.
-/
import Derived.Test.YtdnghdepiiimmaaNdPlain
import Derived.Test.YtdnghdepiiimmaaOth
import Derived.WalkKit
namespace Go.Proofs.Ytdnghdepiiimmaa
open Go.RowKit

def ndMkF (s : Int) (i : Nat) : Nd := ⟨s + 5 * (i : Int), s + 5 * (i : Int) + 1, s + 5 * (i : Int) + 2, s + 5 * (i : Int) + 3, s + 5 * (i : Int) + 4⟩
def ndMksF (s : Int) (L : List Nd) (j : Nat) : List Nd := (List.range j).map (ndMkF s) ++ L.drop j
theorem ndMksF_length (s : Int) (L : List Nd) (j : Nat) (h : j ≤ L.length) : (ndMksF s L j).length = L.length := by simp [ndMksF]; omega
theorem ndMksF_zero (s : Int) (L : List Nd) : ndMksF s L 0 = L := by simp [ndMksF]
theorem ndMksF_step (s : Int) (L : List Nd) (j : Nat) (h : j < L.length) : (ndMksF s L j).set j (ndMkF s j) = ndMksF s L (j + 1) := by
  unfold ndMksF
  rw [List.set_append_right _ _ (by simp), List.range_succ, List.map_append]
  simp
  rw [List.drop_eq_getElem_cons h]
  rfl
theorem ndMksF_end (s : Int) (L : List Nd) (j : Nat) (hj : j < L.length) : ndAt (ndMksF s L L.length) j = ndMkF s j := by
  have : j < L.length := hj
  simp [ndMksF, ndAt, this]
set_option maxHeartbeats 6400000 in
set_option maxRecDepth 100000 in
theorem markNdsF (s : Int) (s0 : 0 ≤ s) (s1 : s ≤ 1099511627776) (base : Nat) (a : Option Addr) (cap : Nat) (T : List Nd) (hT : T.length ≤ 1048576) (w : World) (H : Hid (NdRow base w (.slice a T.length cap) T)) :
    Calls Try.prog 17 #[.slice a T.length cap, .int .i64 s] w fun e w' => e = .returned (.int .i64 (s + 5 * (T.length : Int))) ∧ NdRow base w' (.slice a T.length cap) (ndMksF s T T.length) ∧ Below base w w' ∧ Oth (.slice a T.length cap) w w' := by
  obtain ⟨len, hlen⟩ : ∃ n, T.length = n := ⟨_, rfl⟩
  have H : Hid (w.ownsRow base 44 5 (.slice a len cap) len (ndcells T)) := by
    have h := H.out
    unfold NdRow at h
    rw [hlen] at h
    exact h
  rw [hlen] at hT ⊢
  have Hlen : Hid (T.length = len) := hlen
  clear hlen
  go_enter Try.func17, Try.ntmps17
  go_wp2
  go_loopw [1, 5] (fun kk i wr => ∃ (j : Nat) (kv : Int), j ≤ len ∧ i = .int .i64 j ∧ kk = .int .i64 kv ∧ kv = s + 5 * (j : Int) ∧ Hid (wr.ownsRow base 44 5 (.slice a len cap) len (ndcells (ndMksF s T j)) ∧ Below base w wr ∧ Oth (.slice a len cap) w wr)) (fun _ i _ => len - (intOf i).toNat)
  case atStart => exact ⟨0, s, Nat.zero_le _, rfl, rfl, by simp, by rw [ndMksF_zero]; exact H.out, Below.refl _ _, Oth.refl _ _⟩
  case round =>
    obtain ⟨j, kv, hj, rfl, rfl, hkv, H2⟩ := hrel
    have Hkv : Hid (kv = s + 5 * (j : Int)) := hkv
    have k0 : 0 ≤ kv := by omega
    have k1 : kv ≤ 1099516870656 := by omega
    by_cases hlt : j < len
    · obtain ⟨g, ha⟩ : ∃ g, a = some ⟨g, 0, none⟩ := by
        rcases H2.out.1.2 with ⟨e, _⟩ | ⟨g, cap', cur, e, _⟩
        · cases e; omega
        · cases e; exact ⟨g, rfl⟩
      subst ha
      have hput := NdRow.put (l := ndMksF s T j) H2.out.1 j (ndMkF s j)
      rw [ndMksF_step s T j (by rw [Hlen.out]; exact hlt)] at hput
      have em : ndMkF s j = ⟨kv, kv + 1, kv + 1 + 1, kv + 1 + 1 + 1, kv + 1 + 1 + 1 + 1⟩ := by
        rw [hkv]
        unfold ndMkF
        simp only [Nd.mk.injEq, Pz.mk.injEq]
        refine ⟨by first | trivial | omega, by first | trivial | omega, by first | trivial | omega, by first | trivial | omega, by first | trivial | omega⟩
      rw [em] at hput
      have hblk := (World.ownsRow.lt H2.out.1 g rfl).1
      have ex : ∀ q, q < len * 5 → ∃ v, wr.cell? ⟨g, q, none⟩ = some v := by
        intro q hq
        rw [H2.out.1.cellAt q hq]
        exact ⟨_, List.getElem?_eq_getElem (by rw [ndcells_length, ndMksF_length s T j (by rw [Hlen.out]; omega), Hlen.out]; exact hq)⟩
      obtain ⟨y0, hy0⟩ := ex (j * 5) (by omega)
      obtain ⟨y1, hy1⟩ := ex (j * 5 + 1) (by omega)
      obtain ⟨y2, hy2⟩ := ex (j * 5 + 2) (by omega)
      obtain ⟨y3, hy3⟩ := ex (j * 5 + 3) (by omega)
      obtain ⟨y4, hy4⟩ := ex (j * 5 + 4) (by omega)
      have z0 := H2.out.1.frozenAt (j * 5)
      have z1 := H2.out.1.frozenAt (j * 5 + 1)
      have z2 := H2.out.1.frozenAt (j * 5 + 2)
      have z3 := H2.out.1.frozenAt (j * 5 + 3)
      have z4 := H2.out.1.frozenAt (j * 5 + 4)
      have H3 : Hid (_ ∧ Below base w (((((wr.setCell ⟨g, j * 5, none⟩ (.int .i64 (kv))).setCell ⟨g, j * 5 + 1, none⟩ (.int .i64 (kv + 1))).setCell ⟨g, j * 5 + 2, none⟩ (.int .i64 (kv + 1 + 1))).setCell ⟨g, j * 5 + 3, none⟩ (.int .i64 (kv + 1 + 1 + 1))).setCell ⟨g, j * 5 + 4, none⟩ (.int .i64 (kv + 1 + 1 + 1 + 1))) ∧ Oth (.slice (some ⟨g, 0, none⟩) len cap) w (((((wr.setCell ⟨g, j * 5, none⟩ (.int .i64 (kv))).setCell ⟨g, j * 5 + 1, none⟩ (.int .i64 (kv + 1))).setCell ⟨g, j * 5 + 2, none⟩ (.int .i64 (kv + 1 + 1))).setCell ⟨g, j * 5 + 3, none⟩ (.int .i64 (kv + 1 + 1 + 1))).setCell ⟨g, j * 5 + 4, none⟩ (.int .i64 (kv + 1 + 1 + 1 + 1)))) := ⟨hput, ((((H2.out.2.1.setCell hblk _).setCell hblk _).setCell hblk _).setCell hblk _).setCell hblk _, H2.out.2.2.set.set.set.set.set⟩
      clear hput hblk ex hkv em
      go_wp2
      go_roundw
      case rel => exact ⟨j + 1, kv + 5, by omega, by go_num, by go_num, by rw [Hkv.out]; push_cast; omega, H3⟩
      case measure => simp [intOf]; omega
    · obtain rfl : j = len := by omega
      go_wp2
      go_ret
      refine ⟨by rw [← Hkv.out]; rfl, ?_, H2.out.2⟩
      have h := H2.out.1
      unfold NdRow
      rw [ndMksF_length s T _ (by rw [Hlen.out]; omega), Hlen.out]
      exact h
end Go.Proofs.Ytdnghdepiiimmaa
