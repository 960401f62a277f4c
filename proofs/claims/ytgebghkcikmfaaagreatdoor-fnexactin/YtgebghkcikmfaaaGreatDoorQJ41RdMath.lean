import Derived.Test.YtgebghkcikmfaaaGreatDoorQJ40RdJ
import Derived.Test.YtgebghkcikmfaaaGreatDoorQJ1FrInner
import Derived.Deep.RegionLaw
import Derived.Deep.DeepCutAuto
import Derived.Laws.ResultCell
import Derived.Lib.Strings
/-
  The walk of the reader's method frame: its three labels, and what it answers. By the verifier.
-/
namespace Go.Proofs.YtgebghkcikmfaaaGreatDoor
open Go.RowKit

theorem RFs.start {es em : Addr} {W : World} {b : Nat} {text : ByteArray} {σ : Rst} {w : World} (R : Rd es em W b text σ w) : RFs es em W b text w σ (.slice none 0 0) [] zeroFr ((w.alloc (.cells zeroFr 175)).alloc (.cells zeroFr 175)) := by
  have hb := R.box.lt
  have g : Below w.heap.size w ((w.alloc (.cells zeroFr 175)).alloc (.cells zeroFr 175)) := bel_alloc (bel_alloc (Below.refl _ w) (Nat.le_refl _) _) (Nat.le_refl _) _
  refine ⟨⟨R.bel.trans (g.mono R.bel.size), R.lo, R.box.below hb g, R.le⟩, ?_, ?_, World.ownsRow_nil _ _ _ _, hb, Kpt.of_below g (Nat.le_refl _)⟩
  · unfold Boxed
    rw [Below.heap_alloc _ _ _ (by simp)]
    exact Boxed.new w zeroFr 175
  · have := Boxed.new (w.alloc (.cells zeroFr 175)) zeroFr 175
    simpa [Boxed] using this

theorem RFs.grow {es em : Addr} {W : World} {b : Nat} {text : ByteArray} {w0 : World} {σ : Rst} {sl sl' : Value} {T T' : List Int} {cs : Array Value} {w w' : World} (h : RFs es em W b text w0 σ sl T cs w) (g : Below (w0.heap.size + 1 + 1) w w') (r : IRow (w0.heap.size + 1 + 1) w' sl' T') : RFs es em W b text w0 σ sl' T' cs w' := by
  have hb := h.lt
  have hlo := h.rd.lo
  exact ⟨⟨h.rd.bel.trans (g.mono (by omega)), h.rd.lo, h.rd.box.below (by omega) g, h.rd.le⟩, h.res.below (by omega) g, h.fr.below (by omega) g, r, h.lt, ⟨Nat.le_trans h.kp.size g.size, fun k h1 h2 => (g.block k (by omega)).trans (h.kp.block k h1 h2)⟩⟩
theorem Rst.atMost_bounds (text : ByteArray) (σ : Rst) (most : Int) (k : Nat) (code : Int) (hm : 0 ≤ most) : 0 ≤ (σ.atMost text most k code).1 ∧ (σ.atMost text most k code).1 ≤ most := by
  unfold Rst.atMost
  split
  · exact ⟨Int.le_refl 0, hm⟩
  · rename_i h
    exact ⟨numOf_nonneg _, by omega⟩

set_option maxHeartbeats 6400000 in
set_option maxRecDepth 100000 in
theorem rdFrame {es em : Addr} {W : World} {b : Nat} {text : ByteArray} (G : Hid (Gl es em W)) (hsz : text.size ≤ 1048576) (w : World) (R : Hid (Rd es em W b text ⟨0, none⟩ w)) :
    Calls Tryz.prog 188 #[.pointer (some ⟨b, 0, none⟩)] w (FrPost es em W b text w) := by
  go_enter Tryz.func188, Tryz.ntmps188
  go_wp2
  refine scope_ghost ?r0 ?r1 ?r2 ?h0 ?h1 ?h2 (Jtag es em W b text w) (Jhead es em W b text w) (Jkind es em W b text w) _ rfl ?first ?p0 ?p1 ?p2
  case h0 => exact rfl
  case h1 => exact rfl
  case h2 => exact rfl
  case first =>
    go_wp2_with fail
    have H1 : Hid (RFs es em W b text w ⟨0, none⟩ (.slice none 0 0) [] zeroFr _) := RFs.start R.out
    refine (rdNumber G hsz ⟨0, none⟩ 2 (by decide) _ H1.out.rd).mono ?_
    rintro e w2 ⟨rfl, R2, K2⟩
    have H2 : Hid (RFs es em W b text w _ (.slice none 0 0) [] zeroFr w2) := H1.out.step R2 K2
    clear R2 K2 H1
    have c0 := H2.out.fr.cell 0 rfl
    have f0 := H2.out.fr.frozen 0
    have hrun : Hid (frameRun text = (((⟨0, none⟩ : Rst).number text 2).2.number text 2).2.kindRun text ((⟨0, none⟩ : Rst).number text 2).1 (((⟨0, none⟩ : Rst).number text 2).2.number text 2).1 2 []) := rfl
    generalize ((⟨0, none⟩ : Rst).number text 2).2 = σ2 at H2 hrun
    generalize ((⟨0, none⟩ : Rst).number text 2).1 = dest at hrun ⊢
    go_wp2_with fail
    refine (rdNumber G hsz σ2 2 (by decide) _ (H2.out.store 0 (.int .i64 dest)).rd).mono ?_
    rintro e w3 ⟨rfl, R3, K3⟩
    have H3 : Hid (RFs es em W b text w _ (.slice none 0 0) [] #[.int .i64 dest, .int .i64 0, .slice none 0 0, .int .i64 0, .int .i64 0, .int .i64 0, .int .i64 0, .int .i64 0, .int .i64 0, .int .i64 0, .string ⟨#[]⟩] w3) := (H2.out.store 0 (.int .i64 dest)).step R3 K3
    clear R3 K3 H2 c0 f0
    have c1 := H3.out.fr.cell 1 rfl
    have f1 := H3.out.fr.frozen 1
    generalize (σ2.number text 2).2 = σ at H3 hrun
    generalize (σ2.number text 2).1 = frm at hrun ⊢
    go_wp2_with fail
    go_step3
    go_wp2_with fail
    obtain ⟨sa, hsa⟩ : ∃ x : Option Addr, x = none := ⟨_, rfl⟩
    obtain ⟨sc, hsc⟩ : ∃ x : Nat, x = 0 := ⟨_, rfl⟩
    obtain ⟨T, hTT⟩ : ∃ x : List Int, x = [] := ⟨_, rfl⟩
    obtain ⟨k, hkk⟩ : ∃ x : Nat, x = 2 := ⟨_, rfl⟩
    have hT : T.length + k = 2 := by rw [hTT, hkk]; rfl
    have H : Hid (RFs es em W b text w σ (.slice sa T.length sc) T (csOf dest frm (.slice sa T.length sc)) (w3.setCell ⟨w.heap.size + 1, 1, none⟩ (.int .i64 frm))) := by
      rw [hsa, hsc, hTT]
      exact H3.out.store 1 (.int .i64 frm)
    have hk : Hid (σ.kindRun text dest frm k T = frameRun text) := by
      rw [hTT, hkk]
      exact hrun.out.symm
    clear H3 hrun c1 f1 hsa hsc hTT hkk
    refine (rdNumber G hsz σ 1 (by decide) _ H.out.rd).mono ?_
    rintro e w9 ⟨rfl, R9, K9⟩
    have H9 : Hid (RFs es em W b text w (σ.number text 1).2 (.slice sa T.length sc) T (csOf dest frm (.slice sa T.length sc)) w9) := H.out.step R9 K9
    clear R9 K9
    have hkk : Hid (_ = frameRun text) := (Rst.kindRun_eq text dest frm k σ T).symm.trans hk.out
    generalize (σ.number text 1).2 = σ9 at H9 hkk
    generalize (σ.number text 1).1 = n9 at hkk ⊢
    by_cases h1 : n9 = 1
    · have hk0 : Hid (σ9.tagRun text dest frm k T = frameRun text) := by have := hkk.out; rw [if_pos h1] at this; exact this
      clear hkk
      subst h1
      go_wp2
      go_step3
      exact ⟨2 * k + 1, Or.inl ⟨rfl, dest, frm, σ9, .slice sa T.length sc, T, k, ⟨rfl, rfl, rfl, rfl, rfl⟩, rfl, hT, H9.out, hk0.out⟩⟩
    by_cases h2 : n9 = 2
    · have hk0 : Hid (σ9.headRun text dest frm T = frameRun text) := by have := hkk.out; rw [if_neg h1, if_pos h2] at this; exact this
      clear hkk
      subst h2
      go_wp2
      go_step3
      exact ⟨0, Or.inr (Or.inl ⟨rfl, dest, frm, σ9, .slice sa T.length sc, T, ⟨rfl, rfl, rfl, rfl, rfl⟩, rfl, by omega, H9.out, hk0.out⟩)⟩
    have hk0 : Hid ((⟨dest, frm, T, 0, 0, 0, 0, 0, 0, 0, ⟨#[]⟩⟩, σ9.fail (some (some 3))) = frameRun text) := by have := hkk.out; rw [if_neg h1, if_neg h2] at this; exact this
    clear hkk
    go_wp2_with fail
    refine (rdFail (x := some (some 3)) σ9 _ H9.out.rd).mono ?_
    rintro e w10 ⟨rfl, R10, K10⟩
    have H10 : Hid (RFs es em W b text w (σ9.fail (some (some 3))) (.slice sa T.length sc) T (csOf dest frm (.slice sa T.length sc)) w10) := H9.out.step R10 K10
    clear R10 K10
    go_wp2_with (first | (refine wpList_load_row rfl 175 (.tmp 3) rfl (w.heap.size + 1) rfl _ _ _ _ H10.out.fr Tryz.underlying175 rfl (by kernel_rfl) ?_) | (refine wpList_store_row rfl 175 (.tmp 2) (.tmp 20) rfl w.heap.size _ rfl rfl _ _ H10.out.res (by kernel_rfl) rfl (frOne _ _ _ _ _ _ _ _ _ _ _ _ _) ?_))
    rw [jumps_ret]
    exact frEnd (f := ⟨dest, frm, T, 0, 0, 0, 0, 0, 0, 0, ⟨#[]⟩⟩) H10.out hk0.out _ rfl rfl
  case p0 =>
    rintro n a9 w9 ⟨dest, frm, σ, sl, T, k, hs, rfl, hT, H, hk⟩
    obtain ⟨u, rfl⟩ := hs.act
    obtain ⟨sa, sc, rfl⟩ := H.row.shape
    have hk : Hid (σ.tagRun text dest frm k T = frameRun text) := hk
    have H : Hid (RFs es em W b text w σ (.slice sa T.length sc) T (csOf dest frm (.slice sa T.length sc)) w9) := H
    have c2 : w9.cell? ⟨w.heap.size + 1, 2, none⟩ = some (.slice sa T.length sc) := H.out.fr.cell 2 rfl
    clear hs
    simp only [frAct]
    cases k with
    | zero =>
      have hTa : 2 ≤ (T.length : Int) := by omega
      have hTb : (T.length : Int) ≤ 2 := by omega
      go_wp2_with fail
      refine (rdFail (x := some (some 2)) σ _ H.out.rd).mono ?_
      rintro e w10 ⟨rfl, R10, K10⟩
      have H10 : Hid (RFs es em W b text w (σ.fail (some (some 2))) (.slice sa T.length sc) T (csOf dest frm (.slice sa T.length sc)) w10) := H.out.step R10 K10
      clear R10 K10 c2
      go_wp2_with (first | (refine wpList_load_row rfl 175 (.tmp 3) rfl (w.heap.size + 1) rfl _ _ _ _ H10.out.fr Tryz.underlying175 rfl (by kernel_rfl) ?_) | (refine wpList_store_row rfl 175 (.tmp 2) (.tmp 29) rfl w.heap.size _ rfl rfl _ _ H10.out.res (by kernel_rfl) rfl (frOne _ _ _ _ _ _ _ _ _ _ _ _ _) ?_))
      rw [jumps_ret]
      exact frEnd (f := ⟨dest, frm, T, 0, 0, 0, 0, 0, 0, 0, ⟨#[]⟩⟩) H10.out hk.out _ rfl rfl
    | succ k =>
      have hT1 : (T.length : Int) < 2 := by omega
      have hk0 : Hid ((σ.atMost text 4095 2 2).2.kindRun text dest frm k (T ++ [(σ.atMost text 4095 2 2).1]) = frameRun text) := hk.out
      have M := fun w1 (R1 : Hid (Rd es em W b text σ w1)) => rdMost G hsz σ 4095 2 (by decide) 2 w1 R1
      generalize (σ.atMost text 4095 2 2).2 = σ' at M hk0
      generalize (σ.atMost text 4095 2 2).1 = x at M hk0
      have M' : Hid _ := M
      clear M hk
      go_wp2_with fail
      go_region_law (first | (refine step_call rfl 236 rfl #[.pointer (some ⟨b, 0, none⟩), .int .i64 4095, .int .i64 2, .int .i64 2] (by kernel_rfl) (M'.out _ H.out.drew.rd) ?_; rintro e w10 ⟨rfl, R10, K10⟩; refine ⟨_, rfl, ?_⟩; have H10 : Hid (RFs es em W b text w σ' (.slice sa T.length sc) T (csOf dest frm (.slice sa T.length sc)) w10) := H.out.drew.step R10 K10; have d2 : w10.cell? ⟨w.heap.size + 1, 2, none⟩ = some (.slice sa T.length sc) := H10.out.fr.cell 2 rfl; have l10 : w.heap.size + 1 < w10.heap.size := H10.out.fr.lt; clear R10 K10) | (refine step_iapp1 rfl (.tmp 31) (.tmp 34) rfl (w.heap.size + 1 + 1) _ T x (w := w10) ?_ rfl H10.out.row rfl ?_ ?_ ?_; rfl; omega; exact H10.out.fr.lt; intro v' w11 r11 b11; obtain ⟨sa', sc', rfl⟩ := r11.shape; have H11 : Hid (RFs es em W b text w σ' (.slice sa' (T ++ [x]).length sc') (T ++ [x]) (csOf dest frm (.slice sa T.length sc)) w11) := H10.out.grow b11 r11; have e2 : w11.cell? ⟨w.heap.size + 1, 2, none⟩ = some (.slice sa T.length sc) := H11.out.fr.cell 2 rfl; have g2 := H11.out.fr.frozen 2; simp only [List.length_append, List.length_singleton] at H11; clear r11 b11))
      all_goals go_wp2
      all_goals go_step3
      all_goals exact ⟨2 * k + 2, by omega, Or.inr (Or.inr ⟨rfl, dest, frm, σ', .slice sa' (T.length + 1) sc', T ++ [x], k, ⟨rfl, rfl, rfl, rfl, rfl⟩, rfl, by simp; omega, H11.out.store 2 _, hk0.out⟩)⟩
  case p1 =>
    rintro n a9 w3 ⟨dest, frm, σ, sl, T, hs, rfl, hT, H, hk⟩
    obtain ⟨u, rfl⟩ := hs.act
    obtain ⟨sa, sc, rfl⟩ := H.row.shape
    have hk : Hid (σ.headRun text dest frm T = frameRun text) := hk
    have H3 : Hid (RFs es em W b text w σ (.slice sa T.length sc) T (csOf dest frm (.slice sa T.length sc)) w3) := H
    clear hs H
    simp only [Rst.headRun] at hk
    simp only [frAct]
    go_wp2_with fail
    refine (rdNumber G hsz σ 4 (by decide) _ H3.out.rd).mono ?_
    rintro e w4 ⟨rfl, Rx, Kx⟩
    have H4 : Hid (RFs es em W b text w (σ.number text 4).2 (.slice sa T.length sc) T (csOf dest frm (.slice sa T.length sc)) w4) := H3.out.step Rx Kx
    clear Rx Kx
    clear H3
    have c3 : w4.cell? ⟨w.heap.size + 1, 3, none⟩ = some (.int .i64 0) := H4.out.fr.cell 3 rfl
    have f3 := H4.out.fr.frozen 3
    generalize (σ.number text 4).2 = σ3 at H4 hk
    generalize (σ.number text 4).1 = x3 at hk ⊢
    go_wp2_with fail
    refine (rdNumber G hsz σ3 4 (by decide) _ (H4.out.store 3 (.int .i64 x3)).rd).mono ?_
    rintro e w5 ⟨rfl, Rx, Kx⟩
    have H5 : Hid (RFs es em W b text w (σ3.number text 4).2 (.slice sa T.length sc) T #[.int .i64 dest, .int .i64 frm, .slice sa T.length sc, .int .i64 x3, .int .i64 0, .int .i64 0, .int .i64 0, .int .i64 0, .int .i64 0, .int .i64 0, .string ⟨#[]⟩] w5) := (H4.out.store 3 (.int .i64 x3)).step Rx Kx
    clear Rx Kx
    clear H4 c3 f3
    have c4 : w5.cell? ⟨w.heap.size + 1, 4, none⟩ = some (.int .i64 0) := H5.out.fr.cell 4 rfl
    have f4 := H5.out.fr.frozen 4
    generalize (σ3.number text 4).2 = σ4 at H5 hk
    generalize (σ3.number text 4).1 = x4 at hk ⊢
    go_wp2_with fail
    refine (rdNumber G hsz σ4 1 (by decide) _ (H5.out.store 4 (.int .i64 x4)).rd).mono ?_
    rintro e w6 ⟨rfl, Rx, Kx⟩
    have H6 : Hid (RFs es em W b text w (σ4.number text 1).2 (.slice sa T.length sc) T #[.int .i64 dest, .int .i64 frm, .slice sa T.length sc, .int .i64 x3, .int .i64 x4, .int .i64 0, .int .i64 0, .int .i64 0, .int .i64 0, .int .i64 0, .string ⟨#[]⟩] w6) := (H5.out.store 4 (.int .i64 x4)).step Rx Kx
    clear Rx Kx
    clear H5 c4 f4
    have c5 : w6.cell? ⟨w.heap.size + 1, 5, none⟩ = some (.int .i64 0) := H6.out.fr.cell 5 rfl
    have f5 := H6.out.fr.frozen 5
    generalize (σ4.number text 1).2 = σ5 at H6 hk
    generalize (σ4.number text 1).1 = x5 at hk ⊢
    go_wp2_with fail
    refine (rdNumber G hsz σ5 2 (by decide) _ (H6.out.store 5 (.int .i64 x5)).rd).mono ?_
    rintro e w7 ⟨rfl, Rx, Kx⟩
    have H7 : Hid (RFs es em W b text w (σ5.number text 2).2 (.slice sa T.length sc) T #[.int .i64 dest, .int .i64 frm, .slice sa T.length sc, .int .i64 x3, .int .i64 x4, .int .i64 x5, .int .i64 0, .int .i64 0, .int .i64 0, .int .i64 0, .string ⟨#[]⟩] w7) := (H6.out.store 5 (.int .i64 x5)).step Rx Kx
    clear Rx Kx
    clear H6 c5 f5
    have c6 : w7.cell? ⟨w.heap.size + 1, 6, none⟩ = some (.int .i64 0) := H7.out.fr.cell 6 rfl
    have f6 := H7.out.fr.frozen 6
    generalize (σ5.number text 2).2 = σ6 at H7 hk
    generalize (σ5.number text 2).1 = x6 at hk ⊢
    go_wp2_with fail
    refine (rdNumber G hsz σ6 2 (by decide) _ (H7.out.store 6 (.int .i64 x6)).rd).mono ?_
    rintro e w8 ⟨rfl, Rx, Kx⟩
    have H8 : Hid (RFs es em W b text w (σ6.number text 2).2 (.slice sa T.length sc) T #[.int .i64 dest, .int .i64 frm, .slice sa T.length sc, .int .i64 x3, .int .i64 x4, .int .i64 x5, .int .i64 x6, .int .i64 0, .int .i64 0, .int .i64 0, .string ⟨#[]⟩] w8) := (H7.out.store 6 (.int .i64 x6)).step Rx Kx
    clear Rx Kx
    clear H7 c6 f6
    have c7 : w8.cell? ⟨w.heap.size + 1, 7, none⟩ = some (.int .i64 0) := H8.out.fr.cell 7 rfl
    have f7 := H8.out.fr.frozen 7
    generalize (σ6.number text 2).2 = σ7 at H8 hk
    generalize (σ6.number text 2).1 = x7 at hk ⊢
    go_wp2_with fail
    refine (rdMost G hsz σ7 3 1 (by decide) 4 _ (H8.out.store 7 (.int .i64 x7)).rd).mono ?_
    rintro e w9 ⟨rfl, Rx, Kx⟩
    have H9 : Hid (RFs es em W b text w (σ7.atMost text 3 1 4).2 (.slice sa T.length sc) T #[.int .i64 dest, .int .i64 frm, .slice sa T.length sc, .int .i64 x3, .int .i64 x4, .int .i64 x5, .int .i64 x6, .int .i64 x7, .int .i64 0, .int .i64 0, .string ⟨#[]⟩] w9) := (H8.out.store 7 (.int .i64 x7)).step Rx Kx
    clear Rx Kx
    clear H8 c7 f7
    have c8 : w9.cell? ⟨w.heap.size + 1, 8, none⟩ = some (.int .i64 0) := H9.out.fr.cell 8 rfl
    have f8 := H9.out.fr.frozen 8
    generalize (σ7.atMost text 3 1 4).2 = σ8 at H9 hk
    generalize (σ7.atMost text 3 1 4).1 = x8 at hk ⊢
    go_wp2_with fail
    refine (rdNumber G hsz σ8 2 (by decide) _ (H9.out.store 8 (.int .i64 x8)).rd).mono ?_
    rintro e w10 ⟨rfl, Rx, Kx⟩
    have H10 : Hid (RFs es em W b text w (σ8.number text 2).2 (.slice sa T.length sc) T #[.int .i64 dest, .int .i64 frm, .slice sa T.length sc, .int .i64 x3, .int .i64 x4, .int .i64 x5, .int .i64 x6, .int .i64 x7, .int .i64 x8, .int .i64 0, .string ⟨#[]⟩] w10) := (H9.out.store 8 (.int .i64 x8)).step Rx Kx
    clear Rx Kx
    clear H9 c8 f8
    have c9 : w10.cell? ⟨w.heap.size + 1, 9, none⟩ = some (.int .i64 0) := H10.out.fr.cell 9 rfl
    have f9 := H10.out.fr.frozen 9
    generalize (σ8.number text 2).2 = σ9 at H10 hk
    generalize (σ8.number text 2).1 = x9 at hk ⊢
    go_wp2_with fail
    refine (rdMost G hsz σ9 1500 2 (by decide) 5 _ (H10.out.store 9 (.int .i64 x9)).rd).mono ?_
    rintro e w11 ⟨rfl, Rx, Kx⟩
    have H11 : Hid (RFs es em W b text w (σ9.atMost text 1500 2 5).2 (.slice sa T.length sc) T #[.int .i64 dest, .int .i64 frm, .slice sa T.length sc, .int .i64 x3, .int .i64 x4, .int .i64 x5, .int .i64 x6, .int .i64 x7, .int .i64 x8, .int .i64 x9, .string ⟨#[]⟩] w11) := (H10.out.store 9 (.int .i64 x9)).step Rx Kx
    clear Rx Kx H10 c9 f9
    obtain ⟨z0, z1⟩ := Rst.atMost_bounds text σ9 1500 2 5 (by decide)
    obtain ⟨kz, hkz⟩ : ∃ kz : Nat, (σ9.atMost text 1500 2 5).1 = (kz : Int) := ⟨(σ9.atMost text 1500 2 5).1.toNat, by omega⟩
    rw [hkz] at hk z1 ⊢
    rw [Int.toNat_natCast] at hk
    have hkz' : kz ≤ 1500 := by omega
    generalize (σ9.atMost text 1500 2 5).2 = σ10 at H11 hk
    clear hkz z0 z1
    go_wp2_with fail
    refine (rdTake G hsz σ10 kz (by omega) _ H11.out.rd).mono ?_
    rintro e w12 ⟨rfl, Rx, Kx⟩
    have H12 : Hid (RFs es em W b text w (σ10.take text kz).2 (.slice sa T.length sc) T #[.int .i64 dest, .int .i64 frm, .slice sa T.length sc, .int .i64 x3, .int .i64 x4, .int .i64 x5, .int .i64 x6, .int .i64 x7, .int .i64 x8, .int .i64 x9, .string ⟨#[]⟩] w12) := H11.out.step Rx Kx
    clear Rx Kx H11
    have hts := Rst.take_size text σ10 kz
    generalize (σ10.take text kz).2 = σ11 at H12 hk
    generalize (σ10.take text kz).1 = bd at hk hts ⊢
    go_wp2_with fail
    refine (clone bd (by omega) _).mono ?_
    rintro e w13 ⟨rfl, bx⟩
    have H13 : Hid (RFs es em W b text w σ11 (.slice sa T.length sc) T #[.int .i64 dest, .int .i64 frm, .slice sa T.length sc, .int .i64 x3, .int .i64 x4, .int .i64 x5, .int .i64 x6, .int .i64 x7, .int .i64 x8, .int .i64 x9, .string ⟨#[]⟩] w13) := H12.out.below bx
    clear bx H12 hts
    have c10 : w13.cell? ⟨w.heap.size + 1, 10, none⟩ = some (.string ⟨#[]⟩) := H13.out.fr.cell 10 rfl
    have f10 := H13.out.fr.frozen 10
    go_upto_region 21 with fail
    have H14 : Hid (RFs es em W b text w σ11 (.slice sa T.length sc) T #[.int .i64 dest, .int .i64 frm, .slice sa T.length sc, .int .i64 x3, .int .i64 x4, .int .i64 x5, .int .i64 x6, .int .i64 x7, .int .i64 x8, .int .i64 x9, .string bd] (w13.setCell ⟨w.heap.size + 1, 10, none⟩ (.string bd))) := H13.out.store 10 (.string bd)
    clear H13 c10 f10
    generalize w13.setCell ⟨w.heap.size + 1, 10, none⟩ (.string bd) = w14 at H14 ⊢
    have q0 : w14.cell? ⟨b, 0, none⟩ = some (.string text) := H14.out.rd.box.cell 0 rfl
    have q1 : w14.cell? ⟨b, 1, none⟩ = some (.int .i64 σ11.pos) := H14.out.rd.box.cell 1 rfl
    by_cases hp : σ11.pos < text.size
    · have hk0 : Hid (((⟨dest, frm, T, x3, x4, x5, x6, x7, x8, x9, bd⟩ : Fr), σ11.fail (some none)) = frameRun text) := by
        have := hk.out
        rw [if_pos hp] at this
        exact this
      have hp' : (σ11.pos : Int) < (text.size : Int) := by omega
      have gm : w14.cell? ⟨0, 0, none⟩ = some (.iface 338 (.pointer (some em))) := (G.out.below H14.out.rd.bel).more
      clear hk
      go_region
      go_wp2_with fail
      refine (rdFail (x := (some none)) σ11 _ H14.out.drew.rd).mono ?_
      rintro e w15 ⟨rfl, Rx, Kx⟩
      have H15 : Hid (RFs es em W b text w (σ11.fail (some none)) (.slice sa T.length sc) T #[.int .i64 dest, .int .i64 frm, .slice sa T.length sc, .int .i64 x3, .int .i64 x4, .int .i64 x5, .int .i64 x6, .int .i64 x7, .int .i64 x8, .int .i64 x9, .string bd] w15) := H14.out.drew.step Rx Kx
      clear Rx Kx H14 q0 q1 gm
      go_wp2_with (first | (refine wpList_load_row rfl 175 (.tmp 3) rfl (w.heap.size + 1) rfl _ _ _ _ H15.out.fr Tryz.underlying175 rfl (by kernel_rfl) ?_) | (refine wpList_store_row rfl 175 (.tmp 2) (.tmp 77) rfl w.heap.size _ rfl rfl _ _ H15.out.res (by kernel_rfl) rfl (frOne _ _ _ _ _ _ _ _ _ _ _ _ _) ?_))
      rw [jumps_ret]
      exact frEnd (f := ⟨dest, frm, T, x3, x4, x5, x6, x7, x8, x9, bd⟩) H15.out hk0.out _ rfl rfl
    · have hk0 : Hid (((⟨dest, frm, T, x3, x4, x5, x6, x7, x8, x9, bd⟩ : Fr), σ11) = frameRun text) := by
        have := hk.out
        rw [if_neg hp] at this
        exact this
      have hp' : ¬ (σ11.pos : Int) < (text.size : Int) := by omega
      clear hk
      go_region
      have H15 : Hid (RFs es em W b text w σ11 (.slice sa T.length sc) T #[.int .i64 dest, .int .i64 frm, .slice sa T.length sc, .int .i64 x3, .int .i64 x4, .int .i64 x5, .int .i64 x6, .int .i64 x7, .int .i64 x8, .int .i64 x9, .string bd] w14.drew) := H14.out.drew
      clear H14 q0 q1
      go_wp2_with (first | (refine wpList_load_row rfl 175 (.tmp 3) rfl (w.heap.size + 1) rfl _ _ _ _ H15.out.fr Tryz.underlying175 rfl (by kernel_rfl) ?_) | (refine wpList_store_row rfl 175 (.tmp 2) (.tmp 77) rfl w.heap.size _ rfl rfl _ _ H15.out.res (by kernel_rfl) rfl (frOne _ _ _ _ _ _ _ _ _ _ _ _ _) ?_))
      rw [jumps_ret]
      exact frEnd (f := ⟨dest, frm, T, x3, x4, x5, x6, x7, x8, x9, bd⟩) H15.out hk0.out _ rfl rfl
  case p2 =>
    rintro n a9 w9 ⟨dest, frm, σ, sl, T, k, hs, rfl, hT, H, hk⟩
    obtain ⟨u, rfl⟩ := hs.act
    obtain ⟨sa, sc, rfl⟩ := H.row.shape
    have hk : Hid (σ.kindRun text dest frm k T = frameRun text) := hk
    have H : Hid (RFs es em W b text w σ (.slice sa T.length sc) T (csOf dest frm (.slice sa T.length sc)) w9) := H
    clear hs
    simp only [frAct]
    go_wp2_with fail
    refine (rdNumber G hsz σ 1 (by decide) _ H.out.rd).mono ?_
    rintro e w8 ⟨rfl, R9, K9⟩
    have H9 : Hid (RFs es em W b text w (σ.number text 1).2 (.slice sa T.length sc) T (csOf dest frm (.slice sa T.length sc)) w8) := H.out.step R9 K9
    clear R9 K9
    have hkk : Hid (_ = frameRun text) := (Rst.kindRun_eq text dest frm k σ T).symm.trans hk.out
    generalize (σ.number text 1).2 = σ9 at H9 hkk
    generalize (σ.number text 1).1 = n9 at hkk ⊢
    by_cases h1 : n9 = 1
    · have hk0 : Hid (σ9.tagRun text dest frm k T = frameRun text) := by have := hkk.out; rw [if_pos h1] at this; exact this
      clear hkk
      subst h1
      go_wp2
      go_step3
      exact ⟨2 * k + 1, by omega, Or.inl ⟨rfl, dest, frm, σ9, .slice sa T.length sc, T, k, ⟨rfl, rfl, rfl, rfl, rfl⟩, rfl, hT, H9.out, hk0.out⟩⟩
    by_cases h2 : n9 = 2
    · have hk0 : Hid (σ9.headRun text dest frm T = frameRun text) := by have := hkk.out; rw [if_neg h1, if_pos h2] at this; exact this
      clear hkk
      subst h2
      go_wp2
      go_step3
      exact ⟨0, by omega, Or.inr (Or.inl ⟨rfl, dest, frm, σ9, .slice sa T.length sc, T, ⟨rfl, rfl, rfl, rfl, rfl⟩, rfl, by omega, H9.out, hk0.out⟩)⟩
    have hk0 : Hid ((⟨dest, frm, T, 0, 0, 0, 0, 0, 0, 0, ⟨#[]⟩⟩, σ9.fail (some (some 3))) = frameRun text) := by have := hkk.out; rw [if_neg h1, if_neg h2] at this; exact this
    clear hkk
    go_wp2_with fail
    refine (rdFail (x := some (some 3)) σ9 _ H9.out.rd).mono ?_
    rintro e w10 ⟨rfl, R10, K10⟩
    have H10 : Hid (RFs es em W b text w (σ9.fail (some (some 3))) (.slice sa T.length sc) T (csOf dest frm (.slice sa T.length sc)) w10) := H9.out.step R10 K10
    clear R10 K10
    go_wp2_with (first | (refine wpList_load_row rfl 175 (.tmp 3) rfl (w.heap.size + 1) rfl _ _ _ _ H10.out.fr Tryz.underlying175 rfl (by kernel_rfl) ?_) | (refine wpList_store_row rfl 175 (.tmp 2) (.tmp 20) rfl w.heap.size _ rfl rfl _ _ H10.out.res (by kernel_rfl) rfl (frOne _ _ _ _ _ _ _ _ _ _ _ _ _) ?_))
    rw [jumps_ret]
    exact frEnd (f := ⟨dest, frm, T, 0, 0, 0, 0, 0, 0, 0, ⟨#[]⟩⟩) H10.out hk0.out _ rfl rfl
end Go.Proofs.YtgebghkcikmfaaaGreatDoor

/-
  The walk of the program's ReadFrame: the frame that is read, or the empty one and the code of what was wrong first. By the verifier.
-/
namespace Go.Proofs.YtgebghkcikmfaaaGreatDoor
open Go.RowKit

/-- What is read. -/
def readRes (text : ByteArray) : Fr × Int := if (frameRun text).2.code = 0 then ((frameRun text).1, 0) else (noFr, (frameRun text).2.code)
/-- What a call leaves. -/
def RdPost (text : ByteArray) (w : World) (e : Ending) (w' : World) : Prop :=
  ∃ a cap, e = .returned (.tuple #[(readRes text).1.val a cap, .int .i64 (readRes text).2]) ∧ IRow w.heap.size w' (.slice a (readRes text).1.tags.length cap) (readRes text).1.tags ∧ Below w.heap.size w w'

theorem rdEnd {w : World} {B : Nat} {cs : Array Value} {code : Value} {tmps : Array Value} (hg : w.heap[B]? = some (.cells cs 175 (0, 0))) (h2 : tmps.getD 2 undef = .pointer (some ⟨B, 0, none⟩)) (h3 : tmps.getD 3 undef = code) (hi : (Tryz.prog.info? 175).map (·.size) = some cs.size) :
    (results Tryz.f129 tmps).run Tryz.prog w = .ok (.tuple #[.agg cs, code]) w := by
  rw [results_cell_tmp Tryz.results129, h2, h3]
  simp [asAddr, run_loadVar_row w B _ 175 cs (0, 0) _ hg Tryz.underlying175 rfl hi, Result.andThen]

set_option maxHeartbeats 6400000 in
set_option maxRecDepth 100000 in
theorem implRead {es em : Addr} (text : ByteArray) (hsz : text.size ≤ 1048576) (w : World) (G : Hid (Gl es em w)) :
    Calls Tryz.prog 129 #[.string text] w (RdPost text w) := by
  go_enter Tryz.func129, Tryz.ntmps129
  go_wp2_with fail
  have hres := Boxed.new w zeroFr 175
  have hbox := Boxed.new (w.alloc (.cells zeroFr 175)) #[.string text, .int .i64 0, .nilIface] 230
  have hs1 : (w.alloc (.cells zeroFr 175)).heap.size = w.heap.size + 1 := by simp
  rw [hs1] at hbox
  have g2 : Below w.heap.size w ((w.alloc (.cells zeroFr 175)).alloc (.cells #[.string text, .int .i64 0, .nilIface] 230)) := bel_alloc (bel_alloc (Below.refl _ w) (Nat.le_refl _) _) (Nat.le_refl _) _
  have hres2 := hres.below (b := w.heap.size + 1) (by omega) ((Below.refl _ (w.alloc (.cells zeroFr 175))).alloc (by simp) (.cells #[.string text, .int .i64 0, .nilIface] 230))
  have R : Hid (Rd es em w (w.heap.size + 1) text ⟨0, none⟩ _) := ⟨g2, Nat.le_succ _, hbox, Nat.zero_le _⟩
  have Hr : Hid (Boxed _ w.heap.size zeroFr 175) := hres2
  clear hres hbox hs1 g2 hres2
  refine (rdFrame G hsz _ R).mono ?_
  rintro e w3 ⟨a3, cap3, rfl, row3, R3, K3⟩
  have H3 : Hid (IRow w.heap.size w3 (.slice a3 (frameRun text).1.tags.length cap3) (frameRun text).1.tags ∧ Rd es em w (w.heap.size + 1) text (frameRun text).2 w3 ∧ Boxed w3 w.heap.size zeroFr 175) :=
    ⟨row3.mono (by simp; omega), R3, K3.boxed Hr.out (by omega)⟩
  have c2 : w3.cell? ⟨w.heap.size + 1, 2, none⟩ = some (errVal es em (frameRun text).2.err) := R3.box.cell 2 rfl
  have l3 : w.heap.size + 1 < w3.heap.size := R3.box.lt
  clear row3 R3 K3 R Hr
  have hres : Hid (readRes text = if (frameRun text).2.code = 0 then ((frameRun text).1, 0) else (noFr, (frameRun text).2.code)) := rfl
  have C := fun w1 (G1 : Hid (Gl es em w1)) => implCodeOf es em (frameRun text).2 w1 G1
  generalize (frameRun text).2.code = code at hres C
  generalize errVal es em (frameRun text).2.err = ev at c2 C
  generalize hσ : (frameRun text).2 = σ at H3
  generalize hf : (frameRun text).1 = f at H3 hres ⊢
  have C' : Hid _ := C
  clear C hσ hf
  obtain ⟨dest, frm, tags, src, dst, proto, sport, dport, mark, sum, body⟩ := f
  simp only [Fr.val] at H3 ⊢
  go_wp2_with fail
  have b4 : Below w3.heap.size w3 (w3.alloc (.cells #[.int .i64 dest, .int .i64 frm, .slice a3 tags.length cap3, .int .i64 src, .int .i64 dst, .int .i64 proto, .int .i64 sport, .int .i64 dport, .int .i64 mark, .int .i64 sum, .string body] 175)) := (Below.refl _ _).alloc (Nat.le_refl _) _
  have hn := Boxed.new w3 #[.int .i64 dest, .int .i64 frm, .slice a3 tags.length cap3, .int .i64 src, .int .i64 dst, .int .i64 proto, .int .i64 sport, .int .i64 dport, .int .i64 mark, .int .i64 sum, .string body] 175
  refine (C'.out _ (G.out.below (H3.out.2.1.bel.trans (b4.mono (by omega))))).mono ?_
  rintro e w5 ⟨rfl, b5⟩
  have H5 : Hid (IRow w.heap.size w5 (.slice a3 tags.length cap3) tags ∧ Boxed w5 w.heap.size zeroFr 175 ∧ Boxed w5 w3.heap.size #[.int .i64 dest, .int .i64 frm, .slice a3 tags.length cap3, .int .i64 src, .int .i64 dst, .int .i64 proto, .int .i64 sport, .int .i64 dport, .int .i64 mark, .int .i64 sum, .string body] 175 ∧ Below w.heap.size w w5) := by
    have g : Below w3.heap.size w3 w5 := b4.trans (b5.mono (by simp))
    exact ⟨H3.out.1.carry fun k _ hk => g.block k hk, H3.out.2.2.below (by omega) g, hn.below (by simp) b5, H3.out.2.1.bel.trans (g.mono (by omega))⟩
  clear b4 hn b5 H3 c2
  by_cases hc : code = 0
  · have hres : Hid (readRes text = (⟨dest, frm, tags, src, dst, proto, sport, dport, mark, sum, body⟩, 0)) := by
      have := hres.out
      rw [if_pos hc] at this
      exact this
    subst hc
    go_wp2_with (first | (refine wpList_load_row rfl 175 (.tmp 5) rfl w3.heap.size rfl _ _ _ _ H5.out.2.2.1 Tryz.underlying175 rfl (by kernel_rfl) ?_) | (refine wpList_store_row rfl 175 (.tmp 2) (.tmp 17) rfl w.heap.size _ rfl rfl _ _ H5.out.2.1 (by kernel_rfl) rfl (frOne _ _ _ _ _ _ _ _ _ _ _ _ _) ?_))
    have hg := setRow_heap w5 w.heap.size _ #[.int .i64 dest, .int .i64 frm, .slice a3 tags.length cap3, .int .i64 src, .int .i64 dst, .int .i64 proto, .int .i64 sport, .int .i64 dport, .int .i64 mark, .int .i64 sum, .string body] _ _ H5.out.2.1
    refine bodyPost_ret (rdEnd hg rfl rfl (by kernel_rfl)) rfl ⟨a3, cap3, ?_, ?_, ?_⟩
    · rw [hres.out]; rfl
    · rw [hres.out]
      exact irow_other H5.out.1 H5.out.2.1 _
    · exact below_setRow H5.out.2.2.2 (Nat.le_refl _) _
  · have hres : Hid (readRes text = (noFr, code)) := by
      have := hres.out
      rw [if_neg hc] at this
      exact this
    go_wp2_with (refine wpList_store_row rfl 175 (.tmp 2) (.tmp 15) rfl w.heap.size _ rfl rfl _ _ H5.out.2.1 (by kernel_rfl) rfl (frOne _ _ _ _ _ _ _ _ _ _ _ _ _) ?_)
    have hg := setRow_heap w5 w.heap.size _ zeroFr _ _ H5.out.2.1
    refine bodyPost_ret (rdEnd hg rfl rfl (by kernel_rfl)) rfl ⟨none, 0, ?_, ?_, ?_⟩
    · rw [hres.out]; rfl
    · rw [hres.out]
      exact World.ownsRow_nil _ _ _ _
    · exact below_setRow H5.out.2.2.2 (Nat.le_refl _) _
end Go.Proofs.YtgebghkcikmfaaaGreatDoor

/-
  What the model's ReadFrame says of a text, as plain data; that the reader says the same. By the verifier.
-/
namespace Go.Proofs.YtgebghkcikmfaaaGreatDoor
open Go.RowKit

def fin (r : Fr × Rst) : Fr × Int := if r.2.code = 0 then (r.1, 0) else (noFr, r.2.code)
theorem readRes_fin (text : ByteArray) : readRes text = fin (frameRun text) := rfl
theorem number_ok (text : ByteArray) (p k : Nat) (h : p + k ≤ text.size) : (⟨p, none⟩ : Rst).number text k = (numAt text p k, ⟨p + k, none⟩) := by
  have hn : ¬ text.size < p + k := by omega
  simp only [Rst.number, Rst.take, hn, if_false, numAt]
  rw [Lib.extract_data]
  simp
theorem number_no (text : ByteArray) (p k : Nat) (h : text.size < p + k) : (⟨p, none⟩ : Rst).number text k = (0, ⟨p, some (p, none)⟩) := by
  simp [Rst.number, Rst.take, h, numOf, Rst.fail]
theorem number_err (text : ByteArray) (p k : Nat) (e : Nat × Er) : (⟨p, some e⟩ : Rst).number text k = (0, ⟨p, some e⟩) := by
  simp [Rst.number, Rst.take, numOf]
theorem most_ok (text : ByteArray) (p k : Nat) (m c : Int) (h : p + k ≤ text.size) (hm : numAt text p k ≤ m) : (⟨p, none⟩ : Rst).atMost text m k c = (numAt text p k, ⟨p + k, none⟩) := by
  have hn : ¬ m < numAt text p k := by omega
  simp [Rst.atMost, number_ok text p k h, hn]
theorem most_big (text : ByteArray) (p k : Nat) (m c : Int) (h : p + k ≤ text.size) (hm : m < numAt text p k) : (⟨p, none⟩ : Rst).atMost text m k c = (0, ⟨p + k, some (p + k, some (some c))⟩) := by
  simp [Rst.atMost, number_ok text p k h, hm, Rst.fail]
theorem most_no (text : ByteArray) (p k : Nat) (m c : Int) (h : text.size < p + k) (hm : 0 ≤ m) : (⟨p, none⟩ : Rst).atMost text m k c = (0, ⟨p, some (p, none)⟩) := by
  have hn : ¬ m < 0 := by omega
  simp [Rst.atMost, number_no text p k h, hn]
theorem most_err (text : ByteArray) (p k : Nat) (m c : Int) (e : Nat × Er) (hm : 0 ≤ m) : (⟨p, some e⟩ : Rst).atMost text m k c = (0, ⟨p, some e⟩) := by
  have hn : ¬ m < 0 := by omega
  simp [Rst.atMost, number_err text p k e, hn]
theorem take_ok (text : ByteArray) (p k : Nat) (h : p + k ≤ text.size) : (⟨p, none⟩ : Rst).take text k = (text.extract p (p + k), ⟨p + k, none⟩) := by
  have hn : ¬ text.size < p + k := by omega
  simp [Rst.take, hn]
theorem take_no (text : ByteArray) (p k : Nat) (h : text.size < p + k) : (⟨p, none⟩ : Rst).take text k = (⟨#[]⟩, ⟨p, some (p, none)⟩) := by
  simp [Rst.take, h, Rst.fail]
theorem take_err (text : ByteArray) (p k : Nat) (e : Nat × Er) : (⟨p, some e⟩ : Rst).take text k = (⟨#[]⟩, ⟨p, some e⟩) := by simp [Rst.take]
theorem fail_err (p : Nat) (e : Nat × Er) (x : Er) : (⟨p, some e⟩ : Rst).fail x = ⟨p, some e⟩ := rfl
theorem fail_ok (p : Nat) (x : Er) : (⟨p, none⟩ : Rst).fail x = ⟨p, some (p, x)⟩ := rfl
theorem fin_err (f : Fr) (p q : Nat) (e : Er) (he : e.code ≠ 0) : fin (f, ⟨p, some (q, e)⟩) = (noFr, e.code) := by simp [fin, Rst.code, he]
theorem fin_ok (f : Fr) (p : Nat) : fin (f, ⟨p, none⟩) = (f, 0) := by simp [fin, Rst.code]

theorem kind_err (text : ByteArray) (dest frm : Int) (k : Nat) (T : List Int) (p q : Nat) (e : Er) (he : e.code ≠ 0) : fin ((⟨p, some (q, e)⟩ : Rst).kindRun text dest frm k T) = (noFr, e.code) := by
  rw [Rst.kindRun_eq, number_err]
  simp only [fail_err]
  rw [if_neg (by decide), if_neg (by decide)]
  exact fin_err _ _ _ _ he
theorem head_eq (text : ByteArray) (dest frm : Int) (T : List Int) (p : Nat) : fin ((⟨p, none⟩ : Rst).headRun text dest frm T) = sTail text dest frm T p := by
  simp only [Rst.headRun]
  by_cases h0 : text.size < p + 4
  · rw [number_no _ _ _ h0]
    repeat (first | rw [number_err] | rw [most_err _ _ _ _ _ _ (show (0 : Int) ≤ 3 by decide)] | rw [most_err _ _ _ _ _ _ (show (0 : Int) ≤ 1500 by decide)] | rw [take_err] | rw [fail_err] | rw [ite_self] | dsimp only)
    rw [fin_err _ _ _ _ (by decide), sTail, if_pos (by omega)]
    rfl
  rw [number_ok text (p) 4 (by omega)]
  dsimp only
  by_cases h1 : text.size < p + 4 + 4
  · rw [number_no _ _ _ h1]
    repeat (first | rw [number_err] | rw [most_err _ _ _ _ _ _ (show (0 : Int) ≤ 3 by decide)] | rw [most_err _ _ _ _ _ _ (show (0 : Int) ≤ 1500 by decide)] | rw [take_err] | rw [fail_err] | rw [ite_self] | dsimp only)
    rw [fin_err _ _ _ _ (by decide), sTail, if_pos (by omega)]
    rfl
  rw [number_ok text (p + 4) 4 (by omega)]
  simp only [Nat.add_assoc, Nat.reduceAdd]
  by_cases h2 : text.size < p + 8 + 1
  · rw [number_no _ _ _ h2]
    repeat (first | rw [number_err] | rw [most_err _ _ _ _ _ _ (show (0 : Int) ≤ 3 by decide)] | rw [most_err _ _ _ _ _ _ (show (0 : Int) ≤ 1500 by decide)] | rw [take_err] | rw [fail_err] | rw [ite_self] | dsimp only)
    rw [fin_err _ _ _ _ (by decide), sTail, if_pos (by omega)]
    rfl
  rw [number_ok text (p + 8) 1 (by omega)]
  simp only [Nat.add_assoc, Nat.reduceAdd]
  by_cases h3 : text.size < p + 9 + 2
  · rw [number_no _ _ _ h3]
    repeat (first | rw [number_err] | rw [most_err _ _ _ _ _ _ (show (0 : Int) ≤ 3 by decide)] | rw [most_err _ _ _ _ _ _ (show (0 : Int) ≤ 1500 by decide)] | rw [take_err] | rw [fail_err] | rw [ite_self] | dsimp only)
    rw [fin_err _ _ _ _ (by decide), sTail, if_pos (by omega)]
    rfl
  rw [number_ok text (p + 9) 2 (by omega)]
  simp only [Nat.add_assoc, Nat.reduceAdd]
  by_cases h4 : text.size < p + 11 + 2
  · rw [number_no _ _ _ h4]
    repeat (first | rw [number_err] | rw [most_err _ _ _ _ _ _ (show (0 : Int) ≤ 3 by decide)] | rw [most_err _ _ _ _ _ _ (show (0 : Int) ≤ 1500 by decide)] | rw [take_err] | rw [fail_err] | rw [ite_self] | dsimp only)
    rw [fin_err _ _ _ _ (by decide), sTail, if_pos (by omega)]
    rfl
  rw [number_ok text (p + 11) 2 (by omega)]
  simp only [Nat.add_assoc, Nat.reduceAdd]
  by_cases h5 : text.size < p + 13 + 1
  · rw [most_no _ _ _ _ _ h5 (by decide)]
    repeat (first | rw [number_err] | rw [most_err _ _ _ _ _ _ (show (0 : Int) ≤ 3 by decide)] | rw [most_err _ _ _ _ _ _ (show (0 : Int) ≤ 1500 by decide)] | rw [take_err] | rw [fail_err] | rw [ite_self] | dsimp only)
    rw [fin_err _ _ _ _ (by decide), sTail, if_pos (by omega)]
    rfl
  by_cases m5 : 3 < numAt text (p + 13) 1
  · rw [most_big _ _ _ _ _ (by omega) m5]
    repeat (first | rw [number_err] | rw [most_err _ _ _ _ _ _ (show (0 : Int) ≤ 3 by decide)] | rw [most_err _ _ _ _ _ _ (show (0 : Int) ≤ 1500 by decide)] | rw [take_err] | rw [fail_err] | rw [ite_self] | dsimp only)
    rw [fin_err _ _ _ _ (by decide), sTail, if_neg (by omega), if_pos m5]
    rfl
  rw [most_ok text (p + 13) 1 3 4 (by omega) (by omega)]
  simp only [Nat.add_assoc, Nat.reduceAdd]
  by_cases h6 : text.size < p + 14 + 2
  · rw [number_no _ _ _ h6]
    repeat (first | rw [number_err] | rw [most_err _ _ _ _ _ _ (show (0 : Int) ≤ 3 by decide)] | rw [most_err _ _ _ _ _ _ (show (0 : Int) ≤ 1500 by decide)] | rw [take_err] | rw [fail_err] | rw [ite_self] | dsimp only)
    rw [fin_err _ _ _ _ (by decide), sTail, if_neg (by omega), if_neg m5, if_pos (by omega)]
    rfl
  rw [number_ok text (p + 14) 2 (by omega)]
  simp only [Nat.add_assoc, Nat.reduceAdd]
  by_cases h7 : text.size < p + 16 + 2
  · rw [most_no _ _ _ _ _ h7 (by decide)]
    repeat (first | rw [number_err] | rw [most_err _ _ _ _ _ _ (show (0 : Int) ≤ 3 by decide)] | rw [most_err _ _ _ _ _ _ (show (0 : Int) ≤ 1500 by decide)] | rw [take_err] | rw [fail_err] | rw [ite_self] | dsimp only)
    rw [fin_err _ _ _ _ (by decide), sTail, if_neg (by omega), if_neg m5, if_pos (by omega)]
    rfl
  by_cases m7 : 1500 < numAt text (p + 16) 2
  · rw [most_big _ _ _ _ _ (by omega) m7]
    repeat (first | rw [number_err] | rw [most_err _ _ _ _ _ _ (show (0 : Int) ≤ 3 by decide)] | rw [most_err _ _ _ _ _ _ (show (0 : Int) ≤ 1500 by decide)] | rw [take_err] | rw [fail_err] | rw [ite_self] | dsimp only)
    rw [fin_err _ _ _ _ (by decide), sTail, if_neg (by omega), if_neg m5, if_neg (by omega), if_pos m7]
    rfl
  rw [most_ok text (p + 16) 2 1500 5 (by omega) (by omega)]
  simp only [Nat.add_assoc, Nat.reduceAdd]
  have hR : sTail text dest frm T p = if (text.size : Int) < p + 18 + numAt text (p + 16) 2 then (noFr, 1) else if p + 18 + numAt text (p + 16) 2 < (text.size : Int) then (noFr, 6) else (⟨dest, frm, T, numAt text p 4, numAt text (p + 4) 4, numAt text (p + 8) 1, numAt text (p + 9) 2, numAt text (p + 11) 2, numAt text (p + 13) 1, numAt text (p + 14) 2, text.extract (p + 18) text.size⟩, 0) := by rw [sTail, if_neg (show ¬ text.size < p + 14 by omega), if_neg m5, if_neg (show ¬ text.size < p + 18 by omega), if_neg m7]
  rw [hR]
  clear hR
  obtain ⟨z, hz⟩ : ∃ z : Nat, numAt text (p + 16) 2 = (z : Int) := ⟨(numAt text (p + 16) 2).toNat, by have := numOf_nonneg ((text.data.toList.drop (p + 16)).take 2); unfold numAt; omega⟩
  rw [hz, Int.toNat_natCast]
  by_cases h8 : text.size < p + 18 + z
  · rw [take_no _ _ _ h8]
    repeat (first | rw [number_err] | rw [most_err _ _ _ _ _ _ (show (0 : Int) ≤ 3 by decide)] | rw [most_err _ _ _ _ _ _ (show (0 : Int) ≤ 1500 by decide)] | rw [take_err] | rw [fail_err] | rw [ite_self] | dsimp only)
    rw [fin_err _ _ _ _ (by decide), if_pos (by omega)]
    rfl
  rw [take_ok text (p + 18) z (by omega)]
  dsimp only
  by_cases h9 : p + 18 + z < text.size
  · rw [if_pos h9, fail_ok, fin_err _ _ _ _ (by decide), if_neg (by omega), if_pos (by omega)]
    rfl
  · rw [if_neg h9, fin_ok, if_neg (by omega), if_neg (by omega)]
    have e : p + 18 + z = text.size := by omega
    rw [e]

theorem kind_eq (text : ByteArray) (dest frm : Int) : ∀ (k p : Nat) (T : List Int), p ≤ text.size → fin ((⟨p, none⟩ : Rst).kindRun text dest frm k T) = sKind text dest frm k p T := by
  intro k
  induction k with
  | zero =>
    intro p T hp
    rw [Rst.kindRun_eq, sKind]
    by_cases h : text.size ≤ p
    · rw [number_no _ _ _ (by omega), if_pos h]
      dsimp only
      rw [if_neg (by decide), if_neg (by decide)]
      exact fin_err _ _ _ _ (by decide)
    · rw [number_ok text p 1 (by omega), if_neg h]
      dsimp only
      by_cases h1 : numAt text p 1 = 1
      · rw [if_pos h1, if_neg (by omega), if_neg (by omega)]
        exact fin_err _ _ _ _ (by decide)
      · rw [if_neg h1]
        by_cases h2 : numAt text p 1 = 2
        · rw [if_pos h2, if_pos h2, head_eq]
        · rw [if_neg h2, if_neg h2, if_pos h1]
          exact fin_err _ _ _ _ (by decide)
  | succ k ih =>
    intro p T hp
    rw [Rst.kindRun_eq, sKind]
    by_cases h : text.size ≤ p
    · rw [number_no _ _ _ (by omega), if_pos h]
      dsimp only
      rw [if_neg (by decide), if_neg (by decide)]
      exact fin_err _ _ _ _ (by decide)
    · rw [number_ok text p 1 (by omega), if_neg h]
      dsimp only
      by_cases h1 : numAt text p 1 = 1
      · rw [if_pos h1, if_neg (by omega), if_neg (by omega)]
        rw [Rst.tagRun]
        by_cases h3 : text.size < p + 3
        · rw [most_no text (p + 1) 2 4095 2 (by omega) (by decide), if_pos h3]
          exact kind_err _ _ _ _ _ _ _ _ (by decide)
        · rw [if_neg h3]
          by_cases h4 : 4095 < numAt text (p + 1) 2
          · rw [most_big text (p + 1) 2 4095 2 (by omega) h4, if_pos h4]
            exact kind_err _ _ _ _ _ _ _ _ (by decide)
          · rw [most_ok text (p + 1) 2 4095 2 (by omega) (by omega), if_neg h4]
            exact ih (p + 3) _ (by omega)
      · rw [if_neg h1]
        by_cases h2 : numAt text p 1 = 2
        · rw [if_pos h2, if_pos h2, head_eq]
        · rw [if_neg h2, if_neg h2, if_pos h1]
          exact fin_err _ _ _ _ (by decide)

/-- The reader says what the model says. -/
theorem read_eq (text : ByteArray) : readRes text = sRun text := by
  rw [readRes_fin, sRun, frameRun]
  by_cases h0 : text.size < 2
  · rw [number_no text 0 2 (by omega), if_pos (by omega)]
    dsimp only
    rw [number_err]
    exact kind_err _ _ _ _ _ _ _ _ (by decide)
  · rw [number_ok text 0 2 (by omega)]
    dsimp only
    by_cases h1 : text.size < 4
    · rw [number_no text (0 + 2) 2 (by omega), if_pos h1]
      exact kind_err _ _ _ _ _ _ _ _ (by decide)
    · rw [number_ok text (0 + 2) 2 (by omega), if_neg h1]
      exact kind_eq text _ _ 2 4 [] (by omega)
end Go.Proofs.YtgebghkcikmfaaaGreatDoor
