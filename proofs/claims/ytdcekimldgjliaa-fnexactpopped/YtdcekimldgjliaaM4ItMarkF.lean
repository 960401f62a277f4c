import Derived.RowKit3
import Derived.Below
import Derived.Test.YtdcekimldgjliaaItPlain
import Derived.WalkKit
/-
  All blocks but a list's own are as they were. By the verifier.
-/
namespace Go.Proofs.Ytdcekimldgjliaa
open Go.RowKit

/-- All blocks but a list's own are as they were. -/
structure Oth (v : Value) (w w' : World) : Prop where
  size : w.heap.size ≤ w'.heap.size
  block : ∀ k, v.ownBlock ≠ some k → k < w.heap.size → w'.heap[k]? = w.heap[k]?
theorem Oth.refl (v : Value) (w : World) : Oth v w w := ⟨Nat.le_refl _, fun _ _ _ => rfl⟩
theorem Oth.trans {v : Value} {x y z : World} (h : Oth v x y) (g : Oth v y z) : Oth v x z := ⟨Nat.le_trans h.size g.size, fun k h1 h2 => (g.block k h1 (Nat.lt_of_lt_of_le h2 h.size)).trans (h.block k h1 h2)⟩
theorem Oth.set {g n c : Nat} {x y : World} {o : Nat} {u : Value} (h : Oth (.slice (some ⟨g, 0, none⟩) n c) x y) : Oth (.slice (some ⟨g, 0, none⟩) n c) x (y.setCell ⟨g, o, none⟩ u) :=
  h.trans ⟨by simp [World.setCell], fun k hk _ => Below.heap_setCell _ _ _ _ (by intro e; exact hk (by rw [e]; rfl))⟩
end Go.Proofs.Ytdcekimldgjliaa

/-
  What the laws do to see whose memory a list of records (Item) is: numbers put into it and looked for again. By the verifier, by program.
-/
namespace Go.Proofs.Ytdcekimldgjliaa
open Go.RowKit

def itMkF (s : Int) (i : Nat) : It := ⟨s + 3 * (i : Int), s + 3 * (i : Int) + 1, s + 3 * (i : Int) + 2⟩
def itMksF (s : Int) (L : List It) (j : Nat) : List It := (List.range j).map (itMkF s) ++ L.drop j
theorem itMksF_length (s : Int) (L : List It) (j : Nat) (h : j ≤ L.length) : (itMksF s L j).length = L.length := by simp [itMksF]; omega
theorem itMksF_zero (s : Int) (L : List It) : itMksF s L 0 = L := by simp [itMksF]
theorem itMksF_step (s : Int) (L : List It) (j : Nat) (h : j < L.length) : (itMksF s L j).set j (itMkF s j) = itMksF s L (j + 1) := by
  unfold itMksF
  rw [List.set_append_right _ _ (by simp), List.range_succ, List.map_append]
  simp
  rw [List.drop_eq_getElem_cons h]
  rfl
theorem itMksF_end (s : Int) (L : List It) (j : Nat) (hj : j < L.length) : itAt (itMksF s L L.length) j = itMkF s j := by
  have : j < L.length := hj
  simp [itMksF, itAt, this]
set_option maxHeartbeats 6400000 in
set_option maxRecDepth 100000 in
theorem markItsF (s : Int) (s0 : 0 ≤ s) (s1 : s ≤ 1099511627776) (base : Nat) (a : Option Addr) (cap : Nat) (T : List It) (hT : T.length ≤ 1048576) (w : World) (H : Hid (ItRow base w (.slice a T.length cap) T)) :
    Calls Try.prog 60 #[.slice a T.length cap, .int .i64 s] w fun e w' => e = .returned (.int .i64 (s + 3 * (T.length : Int))) ∧ ItRow base w' (.slice a T.length cap) (itMksF s T T.length) ∧ Below base w w' ∧ Oth (.slice a T.length cap) w w' := by
  obtain ⟨len, hlen⟩ : ∃ n, T.length = n := ⟨_, rfl⟩
  have H : Hid (w.ownsRow base 37 3 (.slice a len cap) len (itcells T)) := by
    have h := H.out
    unfold ItRow at h
    rw [hlen] at h
    exact h
  rw [hlen] at hT ⊢
  have Hlen : Hid (T.length = len) := hlen
  clear hlen
  go_enter Try.func60, Try.ntmps60
  go_wp2
  go_loopw [1, 5] (fun kk i wr => ∃ (j : Nat) (kv : Int), j ≤ len ∧ i = .int .i64 j ∧ kk = .int .i64 kv ∧ kv = s + 3 * (j : Int) ∧ Hid (wr.ownsRow base 37 3 (.slice a len cap) len (itcells (itMksF s T j)) ∧ Below base w wr ∧ Oth (.slice a len cap) w wr)) (fun _ i _ => len - (intOf i).toNat)
  case atStart => exact ⟨0, s, Nat.zero_le _, rfl, rfl, by simp, by rw [itMksF_zero]; exact H.out, Below.refl _ _, Oth.refl _ _⟩
  case round =>
    obtain ⟨j, kv, hj, rfl, rfl, hkv, H2⟩ := hrel
    have Hkv : Hid (kv = s + 3 * (j : Int)) := hkv
    have k0 : 0 ≤ kv := by omega
    have k1 : kv ≤ 1099514773504 := by omega
    by_cases hlt : j < len
    · obtain ⟨g, ha⟩ : ∃ g, a = some ⟨g, 0, none⟩ := by
        rcases H2.out.1.2 with ⟨e, _⟩ | ⟨g, cap', cur, e, _⟩
        · cases e; omega
        · cases e; exact ⟨g, rfl⟩
      subst ha
      have hput := ItRow.put (l := itMksF s T j) H2.out.1 j (itMkF s j)
      rw [itMksF_step s T j (by rw [Hlen.out]; exact hlt)] at hput
      have em : itMkF s j = ⟨kv, kv + 1, kv + 1 + 1⟩ := by
        rw [hkv]
        unfold itMkF
        simp only [It.mk.injEq]
        refine ⟨by first | trivial | omega, by first | trivial | omega, by first | trivial | omega⟩
      rw [em] at hput
      have hblk := (World.ownsRow.lt H2.out.1 g rfl).1
      have ex : ∀ q, q < len * 3 → ∃ v, wr.cell? ⟨g, q, none⟩ = some v := by
        intro q hq
        rw [H2.out.1.cellAt q hq]
        exact ⟨_, List.getElem?_eq_getElem (by rw [itcells_length, itMksF_length s T j (by rw [Hlen.out]; omega), Hlen.out]; exact hq)⟩
      obtain ⟨y0, hy0⟩ := ex (j * 3) (by omega)
      obtain ⟨y1, hy1⟩ := ex (j * 3 + 1) (by omega)
      obtain ⟨y2, hy2⟩ := ex (j * 3 + 2) (by omega)
      have z0 := H2.out.1.frozenAt (j * 3)
      have z1 := H2.out.1.frozenAt (j * 3 + 1)
      have z2 := H2.out.1.frozenAt (j * 3 + 2)
      have H3 : Hid (_ ∧ Below base w (((wr.setCell ⟨g, j * 3, none⟩ (.int .i64 (kv))).setCell ⟨g, j * 3 + 1, none⟩ (.int .i64 (kv + 1))).setCell ⟨g, j * 3 + 2, none⟩ (.int .i64 (kv + 1 + 1))) ∧ Oth (.slice (some ⟨g, 0, none⟩) len cap) w (((wr.setCell ⟨g, j * 3, none⟩ (.int .i64 (kv))).setCell ⟨g, j * 3 + 1, none⟩ (.int .i64 (kv + 1))).setCell ⟨g, j * 3 + 2, none⟩ (.int .i64 (kv + 1 + 1)))) := ⟨hput, ((H2.out.2.1.setCell hblk _).setCell hblk _).setCell hblk _, H2.out.2.2.set.set.set⟩
      clear hput hblk ex hkv em
      go_wp2
      go_roundw
      case rel => exact ⟨j + 1, kv + 3, by omega, by go_num, by go_num, by rw [Hkv.out]; push_cast; omega, H3⟩
      case measure => simp [intOf]; omega
    · obtain rfl : j = len := by omega
      go_wp2
      go_ret
      refine ⟨by rw [← Hkv.out]; rfl, ?_, H2.out.2⟩
      have h := H2.out.1
      unfold ItRow
      rw [itMksF_length s T _ (by rw [Hlen.out]; omega), Hlen.out]
      exact h
end Go.Proofs.Ytdcekimldgjliaa
