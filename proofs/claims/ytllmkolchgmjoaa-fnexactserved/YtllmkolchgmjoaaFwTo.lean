/-
  The walks of the laws' copies of a record with a list, and of a list of such (Flow). By the verifier, by program.
-/
import Derived.Test.YtllmkolchgmjoaaFwCopy
import Derived.Test.YtllmkolchgmjoaaFwBlk
import Derived.Test.YtllmkolchgmjoaaStepRow
import Derived.Laws.ResultCell
import Derived.Laws.CopyOwn
namespace Go.Proofs.Ytllmkolchgmjoaa
open Go.RowKit

set_option maxHeartbeats 1600000 in
set_option maxRecDepth 100000 in
theorem toFw (r : Fw) (a : Option Addr) (c : Nat) (w : World) (hT : r.sizes.length ≤ 1048576) (h : Hid (IntsAt w a r.sizes)) :
    Calls Try.prog 71 #[r.val a c] w fun e w' => ∃ x, e = .returned (r.val (some ⟨x, 0, none⟩) r.sizes.length) ∧ IRow w.heap.size w' (.slice (some ⟨x, 0, none⟩) r.sizes.length r.sizes.length) r.sizes ∧ Below w.heap.size w w' := by
  have T := fun w h => toIntsR a c r.sizes w hT h
  obtain ⟨f0, f1, fl⟩ := r
  simp only [Fw.val] at T h ⊢
  clear hT
  generalize fl.length = n at T ⊢
  have T' : Hid _ := T
  clear T
  obtain ⟨W, hW⟩ : ∃ W, W = ((w.alloc (.cells #[.int .i64 f0, .int .i64 f1, .slice a n c] 91)).alloc (.cells #[.int .i64 0, .int .i64 0, .slice none 0 0] 36)).alloc (.cells #[.int .i64 f0, .int .i64 f1, .slice none 0 0] 36) := ⟨_, rfl⟩
  have X : Hid (IntsAt W a fl ∧ Below w.heap.size w W ∧ Boxed W (w.heap.size + 1) #[.int .i64 0, .int .i64 0, .slice none 0 0] 36 ∧ Boxed W (w.heap.size + 2) #[.int .i64 f0, .int .i64 f1, .slice none 0 0] 36 ∧ w.heap.size + 3 = W.heap.size) := by
    rw [hW]
    have b0 : Below w.heap.size w (((w.alloc (.cells #[.int .i64 f0, .int .i64 f1, .slice a n c] 91)).alloc (.cells #[.int .i64 0, .int .i64 0, .slice none 0 0] 36)).alloc (.cells #[.int .i64 f0, .int .i64 f1, .slice none 0 0] 36)) := (((Below.refl _ _).alloc (Nat.le_refl _) _).alloc (by simp) _).alloc (by simp; omega) _
    refine ⟨h.out.below b0, b0, ?_, ?_, by simp⟩
    · have := (Boxed.new (w.alloc (.cells #[.int .i64 f0, .int .i64 f1, .slice a n c] 91)) #[.int .i64 0, .int .i64 0, .slice none 0 0] 36).more (.cells #[.int .i64 f0, .int .i64 f1, .slice none 0 0] 36)
      simpa using this
    · have := Boxed.new ((w.alloc (.cells #[.int .i64 f0, .int .i64 f1, .slice a n c] 91)).alloc (.cells #[.int .i64 0, .int .i64 0, .slice none 0 0] 36)) #[.int .i64 f0, .int .i64 f1, .slice none 0 0] 36
      simpa using this
  have HW : Hid (W = _) := hW
  clear hW h
  go_enter Try.func71, Try.ntmps71
  go_wp2_with fail
  rw [← HW.out]
  refine (T'.out _ X.out.1).mono ?_
  rintro e w1 ⟨x, rfl, q1, q2⟩
  have hz := X.out.2.2.2.2
  have X1 : Hid (Below w.heap.size w w1 ∧ Boxed w1 (w.heap.size + 1) #[.int .i64 0, .int .i64 0, .slice none 0 0] 36 ∧ Boxed w1 (w.heap.size + 2) #[.int .i64 f0, .int .i64 f1, .slice none 0 0] 36 ∧ IRow W.heap.size w1 (.slice (some ⟨x, 0, none⟩) n n) fl ∧ w.heap.size + 3 = W.heap.size) :=
    ⟨X.out.2.1.trans (q2.mono X.out.2.1.size), X.out.2.2.1.below (by omega) q2, X.out.2.2.2.1.below (by omega) q2, q1, hz⟩
  have X2 : Hid (Boxed (w1.setCell ⟨w.heap.size + 2, 2, none⟩ (.slice (some ⟨x, 0, none⟩) n n)) (w.heap.size + 1) #[.int .i64 0, .int .i64 0, .slice none 0 0] 36 ∧ Boxed (w1.setCell ⟨w.heap.size + 2, 2, none⟩ (.slice (some ⟨x, 0, none⟩) n n)) (w.heap.size + 2) #[.int .i64 f0, .int .i64 f1, .slice (some ⟨x, 0, none⟩) n n] 36) :=
    ⟨X1.out.2.1.far (by omega) _ _, X1.out.2.2.1.put 2 _⟩
  have d1 : w1.cell? ⟨w.heap.size + 2, 2, none⟩ = some (.slice none 0 0) := X1.out.2.2.1.cell 2 rfl
  have z1 := X1.out.2.2.1.ice 2
  clear q1 q2 X hz
  go_wp2_with (first | (refine wpList_load_row rfl 36 (.tmp 3) rfl (w.heap.size + 2) rfl _ _ _ _ X2.out.2 Try.underlying36 rfl (by kernel_rfl) ?_) | (refine wpList_store_row rfl 36 (.tmp 2) (.tmp _) rfl (w.heap.size + 1) _ rfl rfl _ _ X2.out.1 (by kernel_rfl) rfl (by simp [Value.oneCell']) ?_))
  have hB : ∀ k, k ≠ w.heap.size + 1 → k ≠ w.heap.size + 2 → ((w1.setCell ⟨w.heap.size + 2, 2, none⟩ (.slice (some ⟨x, 0, none⟩) n n)).setRow (w.heap.size + 1) #[.int .i64 f0, .int .i64 f1, .slice (some ⟨x, 0, none⟩) n n]).heap[k]? = w1.heap[k]? := fun k h1 h2 => by
    rw [setRow_other _ _ _ _ h1]
    exact Below.heap_setCell _ _ _ _ h2
  have q := X1.out.2.2.2.1
  have e := X1.out.2.2.2.2
  exact bodyPost_ret (results_cell_row Try.results71 _ _ (w.heap.size + 1) _ _ _ _ rfl (setRow_heap _ (w.heap.size + 1) _ _ _ _ X2.out.1) Try.underlying36 rfl (by kernel_rfl)) rfl ⟨x, rfl, (q.carry fun k h1 _ => hB k (by omega) (by omega)).mono (by omega), below_setRow (X1.out.1.setCell (by show w.heap.size ≤ w.heap.size + 2; omega) _) (by omega) _⟩

set_option maxHeartbeats 3200000 in
set_option maxRecDepth 100000 in
theorem toFws (a : Option Addr) (cap : Nat) (ls : List Fw) (w : World) (hT : ls.length ≤ 1048576) (hin : Hid (∀ k, k < ls.length → (fwAt ls k).sizes.length ≤ 1048576)) (h : Hid (FwsAt w a ls)) :
    Calls Try.prog 57 #[.slice a ls.length cap] w fun e w' => ∃ x, e = .returned (.slice (some ⟨x, 0, none⟩) ls.length ls.length) ∧ FwsIn w.heap.size w'.heap.size w' (.slice (some ⟨x, 0, none⟩) ls.length ls.length) ls ∧ Below w.heap.size w w' := by
  obtain ⟨i0, hi, hz0, hz1, hz2⟩ := info_parts fwInfo
  obtain ⟨len, hlen⟩ : ∃ n, ls.length = n := ⟨_, rfl⟩
  rw [hlen] at hT ⊢
  have Hlen : Hid (ls.length = len) := hlen
  clear hlen
  have hmk : ∀ wx, (Instr.makeSlice 24 (.int .i64 (len : Int)) (.int .i64 (len : Int))).run Try.prog wx = .ok (.slice (some ⟨wx.heap.size, 0, none⟩) len len) (wx.alloc (.cells (madeCells #[.int .i64 0, .int .i64 0, .slice none 0 0] (len * 3)) 36)) := by
    intro wx
    have := run_make (P := Try.prog) wx 24 36 i0 (.agg #[.int .i64 0, .int .i64 0, .slice none 0 0]) Try.underlying24 hi hz0 .i64 .i64 len len (by omega) (by omega) (by rw [hz2]; omega) (by omega)
    rw [this, hz1]; simp [Value.cells]
  have H0 : Hid (FwB ls len w.heap.size 0 [] (w.alloc (.cells (madeCells #[.int .i64 0, .int .i64 0, .slice none 0 0] (len * 3)) 36))) := by
    have := World.ownsRow_lit (size := 3) (e := 36) (base := w.heap.size) w (madeCells #[.int .i64 0, .int .i64 0, .slice none 0 0] (len * 3)) len (Nat.le_refl _) (by unfold maxLen; omega) (by rw [size_madeCells])
    rw [fwMade] at this
    exact ⟨by simpa using this, rfl, fun i hi => by omega, fun i hi => by omega, fun i hi => by omega, fun i j hi => by omega⟩
  clear hi hz0 hz1 hz2
  go_enter Try.func57, Try.ntmps57
  go_wp2
  go_loopw [4] (fun i wr => ∃ k : Nat, k ≤ len ∧ i = .int .i64 k ∧ Hid (∃ rs, FwB ls len w.heap.size k rs wr ∧ Below w.heap.size w wr)) (fun i _ => len - (intOf i).toNat)
  case atStart => exact ⟨0, Nat.zero_le _, rfl, [], H0.out, (Below.refl _ _).alloc (Nat.le_refl _) _⟩
  case round =>
    clear H0 hmk
    obtain ⟨k, hk, rfl, H1⟩ := hrel
    obtain ⟨rs, H1⟩ : ∃ rs, Hid (FwB ls len w.heap.size k rs wr ∧ Below w.heap.size w wr) := H1.out
    by_cases hlt : k < len
    · obtain ⟨b1, o1, i1, e1, ha1, hb1, ⟨c0, c1, c2⟩, hr1, -⟩ := (h.out.below H1.out.2) k (by rw [Hlen.out]; exact hlt)
      subst ha1
      have hn := hin.out k (by rw [Hlen.out]; exact hlt)
      have T := fun w h => toFw (fwAt ls k) i1 e1 w hn h
      have hG : w.heap.size < wr.heap.size := (World.ownsRow.lt H1.out.1.outer _ rfl).2
      have St : Hid (∀ w2 x, IRow wr.heap.size w2 (.slice (some ⟨x, 0, none⟩) (fwAt ls k).sizes.length (fwAt ls k).sizes.length) (fwAt ls k).sizes → Below wr.heap.size wr w2 →
          (∃ rs', FwB ls len w.heap.size (k + 1) rs' (((w2.setCell ⟨w.heap.size, k * 3, none⟩ (.int .i64 (fwAt ls k).weight)).setCell ⟨w.heap.size, k * 3 + 1, none⟩ (.int .i64 (fwAt ls k).finish)).setCell ⟨w.heap.size, k * 3 + 2, none⟩ (.slice (some ⟨x, 0, none⟩) (fwAt ls k).sizes.length (fwAt ls k).sizes.length)) ∧ Below w.heap.size w (((w2.setCell ⟨w.heap.size, k * 3, none⟩ (.int .i64 (fwAt ls k).weight)).setCell ⟨w.heap.size, k * 3 + 1, none⟩ (.int .i64 (fwAt ls k).finish)).setCell ⟨w.heap.size, k * 3 + 2, none⟩ (.slice (some ⟨x, 0, none⟩) (fwAt ls k).sizes.length (fwAt ls k).sizes.length))) ∧ (∃ y, w2.cell? ⟨w.heap.size, k * 3, none⟩ = some y) ∧ w2.frozen? ⟨w.heap.size, k * 3, none⟩ = false ∧ (∃ y, w2.cell? ⟨w.heap.size, k * 3 + 1, none⟩ = some y) ∧ w2.frozen? ⟨w.heap.size, k * 3 + 1, none⟩ = false ∧ (∃ y, w2.cell? ⟨w.heap.size, k * 3 + 2, none⟩ = some y) ∧ w2.frozen? ⟨w.heap.size, k * 3 + 2, none⟩ = false) := fun w2 x q1 q2 => by
        have hb := H1.out.1.below q2
        have hcl := fwcells_length (rs ++ List.replicate (len - k) (Fwr.mk 0 0 (.slice none 0 0)))
        have hlr := hb.len
        simp only [List.length_append, List.length_replicate] at hcl
        refine ⟨⟨_, H1.out.1.add hlt q2 q1, (((H1.out.2.trans (q2.mono H1.out.2.size)).setCell (Nat.le_refl _) _).setCell (Nat.le_refl _) _).setCell (Nat.le_refl _) _⟩, ?_, hb.outer.frozenAt (k * 3), ?_, hb.outer.frozenAt (k * 3 + 1), ?_, hb.outer.frozenAt (k * 3 + 2)⟩
        · rw [hb.outer.cellAt (k * 3) (by omega)]
          exact ⟨_, List.getElem?_eq_getElem (by omega)⟩
        · rw [hb.outer.cellAt (k * 3 + 1) (by omega)]
          exact ⟨_, List.getElem?_eq_getElem (by omega)⟩
        · rw [hb.outer.cellAt (k * 3 + 2) (by omega)]
          exact ⟨_, List.getElem?_eq_getElem (by omega)⟩
      generalize (fwAt ls k) = q at c0 c1 c2 hr1 T St
      obtain ⟨q0, q1, ql⟩ := q
      simp only [Fw.val] at c0 c1 c2 hr1 T St
      generalize ql.length = n at c2 T St
      have T' : Hid _ := T
      have Hr1 : Hid (IntsAt wr i1 ql) := hr1
      clear T hr1 hn
      go_wp2_with fail
      refine (T'.out _ Hr1.out).mono ?_
      rintro e w2 ⟨x, rfl, q1, q2⟩
      obtain ⟨H3, ⟨y0, hy0⟩, hz0, ⟨y1, hy1⟩, hz1, ⟨y2, hy2⟩, hz2⟩ := St.out w2 x q1 q2
      have H3 : Hid _ := H3
      have hG2 : w.heap.size < w2.heap.size := Nat.lt_of_lt_of_le hG q2.size
      clear q1 q2 St
      go_wp2
      go_roundw
      case rel => exact ⟨k + 1, by omega, by go_num, H3⟩
      case measure => simp [intOf]; omega
    · obtain rfl : k = len := by omega
      go_wp2
      go_ret
      exact ⟨_, rfl, ⟨rs, H1.out.1.done Hlen.out⟩, H1.out.2⟩
end Go.Proofs.Ytllmkolchgmjoaa
