/-
  The model's drawing of words and of pairs of them; a table's number behind a draw. By the verifier.
-/
import Derived.Test.YteegbmgkjmpkhaaDraw
import Derived.Test.YteegbmgkjmpkhaaFrOk
namespace Go.Proofs.Yteegbmgkjmpkhaa
open Go.RowKit

theorem Cur.ne {W : World} {bc : Nat} {a : Option Addr} {len cap : Nat} {w : World} (c : Cur W bc a len cap w) : w.heap.size ≠ bc := by
  have hl := c.sl
  rintro rfl
  simp [World.cell?] at hl
theorem Cur.lt {W : World} {bc : Nat} {a : Option Addr} {len cap : Nat} {w : World} (c : Cur W bc a len cap w) : bc < w.heap.size := by
  have hl := c.sl
  apply Classical.byContradiction
  intro hn
  simp [World.cell?, Array.getElem?_eq_none (Nat.le_of_not_lt hn)] at hl
/-- A table that was laid ahead of a draw is read behind it. -/
theorem tab {bc : Nat} {w w2 : World} (zs : List Int) (cs : Array Value) (t : TypeId) (h : cs = (zs.map (Value.int .i64)).toArray) (hne : w.heap.size ≠ bc) (k : Keep bc (w.alloc (.cells cs t)) w2) (j : Nat) (hj : j < zs.length) :
    w2.cell? ⟨w.heap.size, j, none⟩ = some (.int .i64 (zs[j]?.getD 0)) := by
  rw [k.cell hne (by simp)]
  obtain ⟨b, off, e, _, hc⟩ := ints_new w t zs cs w.heap.size rfl h j hj
  cases e
  simpa using hc
theorem tab_in (zs : List Int) (lo hi : Int) (h : zs.all (inB lo hi) = true) (j : Nat) (hj : j < zs.length) : lo ≤ zs[j]?.getD 0 ∧ zs[j]?.getD 0 ≤ hi := by
  rw [List.all_eq_true] at h
  rw [List.getElem?_eq_getElem hj]
  exact inB_true.1 (h _ (List.getElem_mem hj))

set_option maxHeartbeats 800000 in
theorem drawWord {W : World} {bc : Nat} {a : Option Addr} {len cap : Nat} (hc : Hid (Code W a len)) (w : World) (cur : Hid (Cur W bc a len cap w)) :
    Calls Try.prog 33 #[.pointer (some ⟨bc, 0, none⟩)] w fun e w' => (∃ x : Int, e = .returned (.int .i64 x) ∧ -1 ≤ x ∧ x ≤ 65536) ∧ Cur W bc a len cap w' ∧ Keep bc w w' := by
  go_enter Try.func33, Try.ntmps33
  go_wp2_with fail
  refine (drawOnce hc 6 (by omega) _ cur).mono ?_
  rintro e w1 ⟨⟨x, rfl⟩, c1⟩
  have H1 : Hid (Cur W bc a len cap w1 ∧ Keep bc w w1) := c1
  clear c1
  cases x
  · go_wp2_with fail
    refine (drawBelow hc 65536 (by omega) _ H1.out.1).mono ?_
    rintro e w2 ⟨⟨y, rfl, y0, y1⟩, c2, k2⟩
    have H2 : Hid (Cur W bc a len cap w2 ∧ Keep bc w w2) := ⟨c2, H1.out.2.trans k2⟩
    clear c2 k2 H1
    go_wp2
    go_ret
    exact ⟨⟨_, rfl, by omega, by omega⟩, H2.out⟩
  · go_wp2_with fail
    refine (drawBelow hc 6 (by omega) _ (H1.out.1.alloc _)).mono ?_
    rintro e w2 ⟨⟨y, rfl, y0, y1⟩, c2, k2⟩
    obtain ⟨j, rfl⟩ := Int.eq_ofNat_of_zero_le y0
    have hj := tab [-1, 0, 65535, 65536, 1, 65534] _ _ rfl H1.out.1.ne k2 j (by simp; omega)
    have hb := tab_in [-1, 0, 65535, 65536, 1, 65534] (-1) 65536 (by decide) j (by simp; omega)
    have H2 : Hid (Cur W bc a len cap w2 ∧ Keep bc w w2) := ⟨c2, (H1.out.2.alloc _).trans k2⟩
    clear c2 k2 H1
    generalize ([-1, 0, 65535, 65536, 1, 65534] : List Int)[j]?.getD 0 = z at hj hb
    have Hb : Hid (-1 ≤ z ∧ z ≤ 65536) := hb
    clear hb
    go_wp2
    go_ret
    exact ⟨⟨_, rfl, Hb.out⟩, H2.out⟩
end Go.Proofs.Yteegbmgkjmpkhaa
