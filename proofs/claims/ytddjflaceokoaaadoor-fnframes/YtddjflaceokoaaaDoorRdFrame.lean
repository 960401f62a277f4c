/-
  The walk of the reader's method frame: its three labels, and what it answers. By the verifier.
-/
import Derived.Test.YtddjflaceokoaaaDoorRdJ
import Derived.Test.YtddjflaceokoaaaDoorFrStep
import Derived.Deep.RegionLaw
import Derived.Deep.DeepCutAuto
namespace Go.Proofs.YtddjflaceokoaaaDoor
open Go.RowKit

theorem frOne (a0 a1 a3 a4 a5 a6 a7 a8 a9 : Int) (x : Option Addr) (n c : Nat) (s : ByteArray) : (#[.int .i64 a0, .int .i64 a1, .slice x n c, .int .i64 a3, .int .i64 a4, .int .i64 a5, .int .i64 a6, .int .i64 a7, .int .i64 a8, .int .i64 a9, .string s] : Array Value).all (·.oneCell') = true := by simp [Value.oneCell']
theorem Fs.start {es em : Addr} {W : World} {b : Nat} {text : ByteArray} {σ : Rst} {w : World} (R : Rd es em W b text σ w) : Fs es em W b text w σ (.slice none 0 0) [] zeroFr ((w.alloc (.cells zeroFr 26)).alloc (.cells zeroFr 26)) := by
  have hb := R.box.lt
  have g : Below w.heap.size w ((w.alloc (.cells zeroFr 26)).alloc (.cells zeroFr 26)) := bel_alloc (bel_alloc (Below.refl _ w) (Nat.le_refl _) _) (Nat.le_refl _) _
  refine ⟨⟨R.bel.trans (g.mono R.bel.size), R.lo, R.box.below hb g, R.le⟩, ?_, ?_, World.ownsRow_nil _ _ _ _, hb, Kpt.of_below g (Nat.le_refl _)⟩
  · unfold Boxed
    rw [Below.heap_alloc _ _ _ (by simp)]
    exact Boxed.new w zeroFr 26
  · have := Boxed.new (w.alloc (.cells zeroFr 26)) zeroFr 26
    simpa [Boxed] using this

theorem info2' : (Tryd.prog.info? 2).map (fun i => (i.zero, i.size, i.bytes)) = some (some (.int .i64 0), 1, 8) := by kernel_rfl
theorem IRow.block {base : Nat} {w : World} {v : Value} {xs : List Int} (h : IRow base w v xs) : ∀ k, v.ownBlock = some k → base ≤ k := fun k hk => (World.ownsRow.lt h k hk).1
/-- One number more, as a step of a region that draws. -/
theorem step_iapp1 {ops : Array Oper} {o : Oper} {a : Act} {w wx : World} {K : Act → World → Prop} {Q : Exit → Act → World → Prop} {E : Prop} (hgd : o.guard = none) (s x : Operand)
    (ho : o.op = .call { callee := .builtin .append, args := #[s, x], argTypes := #[24, 24] })
    (base : Nat) (v : Value) (xs : List Int) (y : Int) (hwx : wx = w.alloc (.cells #[.int .i64 y] 2)) (hs : a.eval s = v) (hrow : IRow base w v xs) (hx : a.eval x = .slice (some ⟨w.heap.size, 0, none⟩) 1 1)
    (hlen : xs.length ≤ 1000000) (hb : base ≤ w.heap.size)
    (h : ∀ v' w', IRow base w' v' (xs ++ [y]) → Below base w w' → K (a.put o.dst v') w') :
    if Region.wanted o (yielded ops a.tmps) = true then Oper.wp Tryd.prog o a wx K Q else E := by
  subst hwx
  have hw : Region.wanted o (yielded ops a.tmps) = true := by simp [Region.wanted, hgd]
  rw [if_pos hw]
  obtain ⟨i0, hi, hz0, hz1, hz2⟩ := info_parts info2'
  obtain ⟨v', w', hrun, h1, h2, _⟩ := run_append_own (P := Tryd.prog) (w.alloc (.cells #[.int .i64 y] 2)) base 24 o.type 2 i0 (.int .i64 0) 1 8 Tryd.underlying24 hi hz0 hz1 hz2 rfl (by decide) v _ _ (World.ownsRow.alloc hrow _) ⟨w.heap.size, 0, none⟩ 1 1 [.int .i64 y] rfl
    (by intro j u hj
        match j, hj with
        | 0, hj => simp at hj; subst hj; simp [Addr.add]) (by intro u hu; simp at hu; subst hu; rfl) (by unfold maxLen; omega) (by omega) (by simp; omega)
  unfold Oper.wp
  simp [execOp, ho, resolve, invoke, builtin, hs, hx, hrun, Result.andThen]
  refine h v' w' ?_ ?_
  · unfold IRow
    rw [List.length_append, List.map_append]
    exact h1
  · exact ((Below.refl base w).alloc hb _).grown h2 (by simp; omega) (fun k hk => IRow.block hrow k hk)
theorem Fs.grow {es em : Addr} {W : World} {b : Nat} {text : ByteArray} {w0 : World} {σ : Rst} {sl sl' : Value} {T T' : List Int} {cs : Array Value} {w w' : World} (h : Fs es em W b text w0 σ sl T cs w) (g : Below (w0.heap.size + 1 + 1) w w') (r : IRow (w0.heap.size + 1 + 1) w' sl' T') : Fs es em W b text w0 σ sl' T' cs w' := by
  have hb := h.lt
  have hlo := h.rd.lo
  exact ⟨⟨h.rd.bel.trans (g.mono (by omega)), h.rd.lo, h.rd.box.below (by omega) g, h.rd.le⟩, h.res.below (by omega) g, h.fr.below (by omega) g, r, h.lt, ⟨Nat.le_trans h.kp.size g.size, fun k h1 h2 => (g.block k (by omega)).trans (h.kp.block k h1 h2)⟩⟩
theorem Rst.atMost_bounds (text : ByteArray) (σ : Rst) (most : Int) (k : Nat) (code : Int) (hm : 0 ≤ most) : 0 ≤ (σ.atMost text most k code).1 ∧ (σ.atMost text most k code).1 ≤ most := by
  unfold Rst.atMost
  split
  · exact ⟨Int.le_refl 0, hm⟩
  · rename_i h
    exact ⟨numOf_nonneg _, by omega⟩

set_option maxHeartbeats 6400000 in
set_option maxRecDepth 100000 in
theorem rdFrame {es em : Addr} {W : World} {b : Nat} {text : ByteArray} (G : Hid (Gl es em W)) (hsz : text.size ≤ 1048576) (w : World) (R : Hid (Rd es em W b text ⟨0, none⟩ w)) :
    Calls Tryd.prog 27 #[.pointer (some ⟨b, 0, none⟩)] w (FrPost es em W b text w) := by
  go_enter Tryd.func27, Tryd.ntmps27
  go_wp2
  refine scope_ghost ?r0 ?r1 ?r2 ?h0 ?h1 ?h2 (Jtag es em W b text w) (Jhead es em W b text w) (Jkind es em W b text w) _ rfl ?first ?p0 ?p1 ?p2
  case h0 => exact rfl
  case h1 => exact rfl
  case h2 => exact rfl
  case first =>
    go_wp2_with fail
    have H1 : Hid (Fs es em W b text w ⟨0, none⟩ (.slice none 0 0) [] zeroFr _) := Fs.start R.out
    refine (rdNumber G hsz ⟨0, none⟩ 2 (by decide) _ H1.out.rd).mono ?_
    rintro e w2 ⟨rfl, R2, K2⟩
    have H2 : Hid (Fs es em W b text w _ (.slice none 0 0) [] zeroFr w2) := H1.out.step R2 K2
    clear R2 K2 H1
    have c0 := H2.out.fr.cell 0 rfl
    have f0 := H2.out.fr.frozen 0
    have hrun : Hid (frameRun text = (((⟨0, none⟩ : Rst).number text 2).2.number text 2).2.kindRun text ((⟨0, none⟩ : Rst).number text 2).1 (((⟨0, none⟩ : Rst).number text 2).2.number text 2).1 2 []) := rfl
    generalize ((⟨0, none⟩ : Rst).number text 2).2 = σ2 at H2 hrun
    generalize ((⟨0, none⟩ : Rst).number text 2).1 = dest at hrun ⊢
    go_wp2_with fail
    refine (rdNumber G hsz σ2 2 (by decide) _ (H2.out.store 0 (.int .i64 dest)).rd).mono ?_
    rintro e w3 ⟨rfl, R3, K3⟩
    have H3 : Hid (Fs es em W b text w _ (.slice none 0 0) [] #[.int .i64 dest, .int .i64 0, .slice none 0 0, .int .i64 0, .int .i64 0, .int .i64 0, .int .i64 0, .int .i64 0, .int .i64 0, .int .i64 0, .string ⟨#[]⟩] w3) := (H2.out.store 0 (.int .i64 dest)).step R3 K3
    clear R3 K3 H2 c0 f0
    have c1 := H3.out.fr.cell 1 rfl
    have f1 := H3.out.fr.frozen 1
    generalize (σ2.number text 2).2 = σ at H3 hrun
    generalize (σ2.number text 2).1 = frm at hrun ⊢
    go_wp2_with fail
    go_step3
    go_wp2_with fail
    obtain ⟨sa, hsa⟩ : ∃ x : Option Addr, x = none := ⟨_, rfl⟩
    obtain ⟨sc, hsc⟩ : ∃ x : Nat, x = 0 := ⟨_, rfl⟩
    obtain ⟨T, hTT⟩ : ∃ x : List Int, x = [] := ⟨_, rfl⟩
    obtain ⟨k, hkk⟩ : ∃ x : Nat, x = 2 := ⟨_, rfl⟩
    have hT : T.length + k = 2 := by rw [hTT, hkk]; rfl
    have H : Hid (Fs es em W b text w σ (.slice sa T.length sc) T (csOf dest frm (.slice sa T.length sc)) (w3.setCell ⟨w.heap.size + 1, 1, none⟩ (.int .i64 frm))) := by
      rw [hsa, hsc, hTT]
      exact H3.out.store 1 (.int .i64 frm)
    have hk : Hid (σ.kindRun text dest frm k T = frameRun text) := by
      rw [hTT, hkk]
      exact hrun.out.symm
    clear H3 hrun c1 f1 hsa hsc hTT hkk
    refine (rdNumber G hsz σ 1 (by decide) _ H.out.rd).mono ?_
    rintro e w9 ⟨rfl, R9, K9⟩
    have H9 : Hid (Fs es em W b text w (σ.number text 1).2 (.slice sa T.length sc) T (csOf dest frm (.slice sa T.length sc)) w9) := H.out.step R9 K9
    clear R9 K9
    have hkk : Hid (_ = frameRun text) := (Rst.kindRun_eq text dest frm k σ T).symm.trans hk.out
    generalize (σ.number text 1).2 = σ9 at H9 hkk
    generalize (σ.number text 1).1 = n9 at hkk ⊢
    by_cases h1 : n9 = 1
    · have hk0 : Hid (σ9.tagRun text dest frm k T = frameRun text) := by have := hkk.out; rw [if_pos h1] at this; exact this
      clear hkk
      subst h1
      go_wp2
      go_step3
      exact ⟨2 * k + 1, Or.inl ⟨rfl, dest, frm, σ9, .slice sa T.length sc, T, k, ⟨rfl, rfl, rfl, rfl, rfl⟩, rfl, hT, H9.out, hk0.out⟩⟩
    by_cases h2 : n9 = 2
    · have hk0 : Hid (σ9.headRun text dest frm T = frameRun text) := by have := hkk.out; rw [if_neg h1, if_pos h2] at this; exact this
      clear hkk
      subst h2
      go_wp2
      go_step3
      exact ⟨0, Or.inr (Or.inl ⟨rfl, dest, frm, σ9, .slice sa T.length sc, T, ⟨rfl, rfl, rfl, rfl, rfl⟩, rfl, by omega, H9.out, hk0.out⟩)⟩
    have hk0 : Hid ((⟨dest, frm, T, 0, 0, 0, 0, 0, 0, 0, ⟨#[]⟩⟩, σ9.fail (some (some 3))) = frameRun text) := by have := hkk.out; rw [if_neg h1, if_neg h2] at this; exact this
    clear hkk
    go_wp2_with fail
    refine (rdFail (x := some (some 3)) σ9 _ H9.out.rd).mono ?_
    rintro e w10 ⟨rfl, R10, K10⟩
    have H10 : Hid (Fs es em W b text w (σ9.fail (some (some 3))) (.slice sa T.length sc) T (csOf dest frm (.slice sa T.length sc)) w10) := H9.out.step R10 K10
    clear R10 K10
    go_wp2_with (first | (refine wpList_load_row rfl 26 (.tmp 3) rfl (w.heap.size + 1) rfl _ _ _ _ H10.out.fr Tryd.underlying26 rfl (by kernel_rfl) ?_) | (refine wpList_store_row rfl 26 (.tmp 2) (.tmp 20) rfl w.heap.size _ rfl rfl _ _ H10.out.res (by kernel_rfl) rfl (frOne _ _ _ _ _ _ _ _ _ _ _ _ _) ?_))
    rw [jumps_ret]
    exact frEnd (f := ⟨dest, frm, T, 0, 0, 0, 0, 0, 0, 0, ⟨#[]⟩⟩) H10.out hk0.out _ rfl rfl
  case p0 =>
    rintro n a9 w9 ⟨dest, frm, σ, sl, T, k, hs, rfl, hT, H, hk⟩
    obtain ⟨u, rfl⟩ := hs.act
    obtain ⟨sa, sc, rfl⟩ := H.row.shape
    have hk : Hid (σ.tagRun text dest frm k T = frameRun text) := hk
    have H : Hid (Fs es em W b text w σ (.slice sa T.length sc) T (csOf dest frm (.slice sa T.length sc)) w9) := H
    have c2 : w9.cell? ⟨w.heap.size + 1, 2, none⟩ = some (.slice sa T.length sc) := H.out.fr.cell 2 rfl
    clear hs
    simp only [frAct]
    cases k with
    | zero =>
      have hTa : 2 ≤ (T.length : Int) := by omega
      have hTb : (T.length : Int) ≤ 2 := by omega
      go_wp2_with fail
      refine (rdFail (x := some (some 2)) σ _ H.out.rd).mono ?_
      rintro e w10 ⟨rfl, R10, K10⟩
      have H10 : Hid (Fs es em W b text w (σ.fail (some (some 2))) (.slice sa T.length sc) T (csOf dest frm (.slice sa T.length sc)) w10) := H.out.step R10 K10
      clear R10 K10 c2
      go_wp2_with (first | (refine wpList_load_row rfl 26 (.tmp 3) rfl (w.heap.size + 1) rfl _ _ _ _ H10.out.fr Tryd.underlying26 rfl (by kernel_rfl) ?_) | (refine wpList_store_row rfl 26 (.tmp 2) (.tmp 29) rfl w.heap.size _ rfl rfl _ _ H10.out.res (by kernel_rfl) rfl (frOne _ _ _ _ _ _ _ _ _ _ _ _ _) ?_))
      rw [jumps_ret]
      exact frEnd (f := ⟨dest, frm, T, 0, 0, 0, 0, 0, 0, 0, ⟨#[]⟩⟩) H10.out hk.out _ rfl rfl
    | succ k =>
      have hT1 : (T.length : Int) < 2 := by omega
      have hk0 : Hid ((σ.atMost text 4095 2 2).2.kindRun text dest frm k (T ++ [(σ.atMost text 4095 2 2).1]) = frameRun text) := hk.out
      have M := fun w1 (R1 : Hid (Rd es em W b text σ w1)) => rdMost G hsz σ 4095 2 (by decide) 2 w1 R1
      generalize (σ.atMost text 4095 2 2).2 = σ' at M hk0
      generalize (σ.atMost text 4095 2 2).1 = x at M hk0
      have M' : Hid _ := M
      clear M hk
      go_wp2_with fail
      go_region_law (first | (refine step_call rfl 48 rfl #[.pointer (some ⟨b, 0, none⟩), .int .i64 4095, .int .i64 2, .int .i64 2] (by kernel_rfl) (M'.out _ H.out.drew.rd) ?_; rintro e w10 ⟨rfl, R10, K10⟩; refine ⟨_, rfl, ?_⟩; have H10 : Hid (Fs es em W b text w σ' (.slice sa T.length sc) T (csOf dest frm (.slice sa T.length sc)) w10) := H.out.drew.step R10 K10; have d2 : w10.cell? ⟨w.heap.size + 1, 2, none⟩ = some (.slice sa T.length sc) := H10.out.fr.cell 2 rfl; have l10 : w.heap.size + 1 < w10.heap.size := H10.out.fr.lt; clear R10 K10) | (refine step_iapp1 rfl (.tmp 31) (.tmp 34) rfl (w.heap.size + 1 + 1) _ T x (w := w10) ?_ rfl H10.out.row rfl ?_ ?_ ?_; rfl; omega; exact H10.out.fr.lt; intro v' w11 r11 b11; obtain ⟨sa', sc', rfl⟩ := r11.shape; have H11 : Hid (Fs es em W b text w σ' (.slice sa' (T ++ [x]).length sc') (T ++ [x]) (csOf dest frm (.slice sa T.length sc)) w11) := H10.out.grow b11 r11; have e2 : w11.cell? ⟨w.heap.size + 1, 2, none⟩ = some (.slice sa T.length sc) := H11.out.fr.cell 2 rfl; have g2 := H11.out.fr.frozen 2; simp only [List.length_append, List.length_singleton] at H11; clear r11 b11))
      all_goals go_wp2
      all_goals go_step3
      all_goals exact ⟨2 * k + 2, by omega, Or.inr (Or.inr ⟨rfl, dest, frm, σ', .slice sa' (T.length + 1) sc', T ++ [x], k, ⟨rfl, rfl, rfl, rfl, rfl⟩, rfl, by simp; omega, H11.out.store 2 _, hk0.out⟩)⟩
  case p1 =>
    rintro n a9 w3 ⟨dest, frm, σ, sl, T, hs, rfl, hT, H, hk⟩
    obtain ⟨u, rfl⟩ := hs.act
    obtain ⟨sa, sc, rfl⟩ := H.row.shape
    have hk : Hid (σ.headRun text dest frm T = frameRun text) := hk
    have H3 : Hid (Fs es em W b text w σ (.slice sa T.length sc) T (csOf dest frm (.slice sa T.length sc)) w3) := H
    clear hs H
    simp only [Rst.headRun] at hk
    simp only [frAct]
    go_wp2_with fail
    refine (rdNumber G hsz σ 4 (by decide) _ H3.out.rd).mono ?_
    rintro e w4 ⟨rfl, Rx, Kx⟩
    have H4 : Hid (Fs es em W b text w (σ.number text 4).2 (.slice sa T.length sc) T (csOf dest frm (.slice sa T.length sc)) w4) := H3.out.step Rx Kx
    clear Rx Kx
    clear H3
    have c3 : w4.cell? ⟨w.heap.size + 1, 3, none⟩ = some (.int .i64 0) := H4.out.fr.cell 3 rfl
    have f3 := H4.out.fr.frozen 3
    generalize (σ.number text 4).2 = σ3 at H4 hk
    generalize (σ.number text 4).1 = x3 at hk ⊢
    go_wp2_with fail
    refine (rdNumber G hsz σ3 4 (by decide) _ (H4.out.store 3 (.int .i64 x3)).rd).mono ?_
    rintro e w5 ⟨rfl, Rx, Kx⟩
    have H5 : Hid (Fs es em W b text w (σ3.number text 4).2 (.slice sa T.length sc) T #[.int .i64 dest, .int .i64 frm, .slice sa T.length sc, .int .i64 x3, .int .i64 0, .int .i64 0, .int .i64 0, .int .i64 0, .int .i64 0, .int .i64 0, .string ⟨#[]⟩] w5) := (H4.out.store 3 (.int .i64 x3)).step Rx Kx
    clear Rx Kx
    clear H4 c3 f3
    have c4 : w5.cell? ⟨w.heap.size + 1, 4, none⟩ = some (.int .i64 0) := H5.out.fr.cell 4 rfl
    have f4 := H5.out.fr.frozen 4
    generalize (σ3.number text 4).2 = σ4 at H5 hk
    generalize (σ3.number text 4).1 = x4 at hk ⊢
    go_wp2_with fail
    refine (rdNumber G hsz σ4 1 (by decide) _ (H5.out.store 4 (.int .i64 x4)).rd).mono ?_
    rintro e w6 ⟨rfl, Rx, Kx⟩
    have H6 : Hid (Fs es em W b text w (σ4.number text 1).2 (.slice sa T.length sc) T #[.int .i64 dest, .int .i64 frm, .slice sa T.length sc, .int .i64 x3, .int .i64 x4, .int .i64 0, .int .i64 0, .int .i64 0, .int .i64 0, .int .i64 0, .string ⟨#[]⟩] w6) := (H5.out.store 4 (.int .i64 x4)).step Rx Kx
    clear Rx Kx
    clear H5 c4 f4
    have c5 : w6.cell? ⟨w.heap.size + 1, 5, none⟩ = some (.int .i64 0) := H6.out.fr.cell 5 rfl
    have f5 := H6.out.fr.frozen 5
    generalize (σ4.number text 1).2 = σ5 at H6 hk
    generalize (σ4.number text 1).1 = x5 at hk ⊢
    go_wp2_with fail
    refine (rdNumber G hsz σ5 2 (by decide) _ (H6.out.store 5 (.int .i64 x5)).rd).mono ?_
    rintro e w7 ⟨rfl, Rx, Kx⟩
    have H7 : Hid (Fs es em W b text w (σ5.number text 2).2 (.slice sa T.length sc) T #[.int .i64 dest, .int .i64 frm, .slice sa T.length sc, .int .i64 x3, .int .i64 x4, .int .i64 x5, .int .i64 0, .int .i64 0, .int .i64 0, .int .i64 0, .string ⟨#[]⟩] w7) := (H6.out.store 5 (.int .i64 x5)).step Rx Kx
    clear Rx Kx
    clear H6 c5 f5
    have c6 : w7.cell? ⟨w.heap.size + 1, 6, none⟩ = some (.int .i64 0) := H7.out.fr.cell 6 rfl
    have f6 := H7.out.fr.frozen 6
    generalize (σ5.number text 2).2 = σ6 at H7 hk
    generalize (σ5.number text 2).1 = x6 at hk ⊢
    go_wp2_with fail
    refine (rdNumber G hsz σ6 2 (by decide) _ (H7.out.store 6 (.int .i64 x6)).rd).mono ?_
    rintro e w8 ⟨rfl, Rx, Kx⟩
    have H8 : Hid (Fs es em W b text w (σ6.number text 2).2 (.slice sa T.length sc) T #[.int .i64 dest, .int .i64 frm, .slice sa T.length sc, .int .i64 x3, .int .i64 x4, .int .i64 x5, .int .i64 x6, .int .i64 0, .int .i64 0, .int .i64 0, .string ⟨#[]⟩] w8) := (H7.out.store 6 (.int .i64 x6)).step Rx Kx
    clear Rx Kx
    clear H7 c6 f6
    have c7 : w8.cell? ⟨w.heap.size + 1, 7, none⟩ = some (.int .i64 0) := H8.out.fr.cell 7 rfl
    have f7 := H8.out.fr.frozen 7
    generalize (σ6.number text 2).2 = σ7 at H8 hk
    generalize (σ6.number text 2).1 = x7 at hk ⊢
    go_wp2_with fail
    refine (rdMost G hsz σ7 3 1 (by decide) 4 _ (H8.out.store 7 (.int .i64 x7)).rd).mono ?_
    rintro e w9 ⟨rfl, Rx, Kx⟩
    have H9 : Hid (Fs es em W b text w (σ7.atMost text 3 1 4).2 (.slice sa T.length sc) T #[.int .i64 dest, .int .i64 frm, .slice sa T.length sc, .int .i64 x3, .int .i64 x4, .int .i64 x5, .int .i64 x6, .int .i64 x7, .int .i64 0, .int .i64 0, .string ⟨#[]⟩] w9) := (H8.out.store 7 (.int .i64 x7)).step Rx Kx
    clear Rx Kx
    clear H8 c7 f7
    have c8 : w9.cell? ⟨w.heap.size + 1, 8, none⟩ = some (.int .i64 0) := H9.out.fr.cell 8 rfl
    have f8 := H9.out.fr.frozen 8
    generalize (σ7.atMost text 3 1 4).2 = σ8 at H9 hk
    generalize (σ7.atMost text 3 1 4).1 = x8 at hk ⊢
    go_wp2_with fail
    refine (rdNumber G hsz σ8 2 (by decide) _ (H9.out.store 8 (.int .i64 x8)).rd).mono ?_
    rintro e w10 ⟨rfl, Rx, Kx⟩
    have H10 : Hid (Fs es em W b text w (σ8.number text 2).2 (.slice sa T.length sc) T #[.int .i64 dest, .int .i64 frm, .slice sa T.length sc, .int .i64 x3, .int .i64 x4, .int .i64 x5, .int .i64 x6, .int .i64 x7, .int .i64 x8, .int .i64 0, .string ⟨#[]⟩] w10) := (H9.out.store 8 (.int .i64 x8)).step Rx Kx
    clear Rx Kx
    clear H9 c8 f8
    have c9 : w10.cell? ⟨w.heap.size + 1, 9, none⟩ = some (.int .i64 0) := H10.out.fr.cell 9 rfl
    have f9 := H10.out.fr.frozen 9
    generalize (σ8.number text 2).2 = σ9 at H10 hk
    generalize (σ8.number text 2).1 = x9 at hk ⊢
    go_wp2_with fail
    refine (rdMost G hsz σ9 1500 2 (by decide) 5 _ (H10.out.store 9 (.int .i64 x9)).rd).mono ?_
    rintro e w11 ⟨rfl, Rx, Kx⟩
    have H11 : Hid (Fs es em W b text w (σ9.atMost text 1500 2 5).2 (.slice sa T.length sc) T #[.int .i64 dest, .int .i64 frm, .slice sa T.length sc, .int .i64 x3, .int .i64 x4, .int .i64 x5, .int .i64 x6, .int .i64 x7, .int .i64 x8, .int .i64 x9, .string ⟨#[]⟩] w11) := (H10.out.store 9 (.int .i64 x9)).step Rx Kx
    clear Rx Kx H10 c9 f9
    obtain ⟨z0, z1⟩ := Rst.atMost_bounds text σ9 1500 2 5 (by decide)
    obtain ⟨kz, hkz⟩ : ∃ kz : Nat, (σ9.atMost text 1500 2 5).1 = (kz : Int) := ⟨(σ9.atMost text 1500 2 5).1.toNat, by omega⟩
    rw [hkz] at hk z1 ⊢
    rw [Int.toNat_natCast] at hk
    have hkz' : kz ≤ 1500 := by omega
    generalize (σ9.atMost text 1500 2 5).2 = σ10 at H11 hk
    clear hkz z0 z1
    go_wp2_with fail
    refine (rdTake G hsz σ10 kz (by omega) _ H11.out.rd).mono ?_
    rintro e w12 ⟨rfl, Rx, Kx⟩
    have H12 : Hid (Fs es em W b text w (σ10.take text kz).2 (.slice sa T.length sc) T #[.int .i64 dest, .int .i64 frm, .slice sa T.length sc, .int .i64 x3, .int .i64 x4, .int .i64 x5, .int .i64 x6, .int .i64 x7, .int .i64 x8, .int .i64 x9, .string ⟨#[]⟩] w12) := H11.out.step Rx Kx
    clear Rx Kx H11
    have hts := Rst.take_size text σ10 kz
    generalize (σ10.take text kz).2 = σ11 at H12 hk
    generalize (σ10.take text kz).1 = bd at hk hts ⊢
    go_wp2_with fail
    refine (clone bd (by omega) _).mono ?_
    rintro e w13 ⟨rfl, bx⟩
    have H13 : Hid (Fs es em W b text w σ11 (.slice sa T.length sc) T #[.int .i64 dest, .int .i64 frm, .slice sa T.length sc, .int .i64 x3, .int .i64 x4, .int .i64 x5, .int .i64 x6, .int .i64 x7, .int .i64 x8, .int .i64 x9, .string ⟨#[]⟩] w13) := H12.out.below bx
    clear bx H12 hts
    have c10 : w13.cell? ⟨w.heap.size + 1, 10, none⟩ = some (.string ⟨#[]⟩) := H13.out.fr.cell 10 rfl
    have f10 := H13.out.fr.frozen 10
    go_upto_region 21 with fail
    have H14 : Hid (Fs es em W b text w σ11 (.slice sa T.length sc) T #[.int .i64 dest, .int .i64 frm, .slice sa T.length sc, .int .i64 x3, .int .i64 x4, .int .i64 x5, .int .i64 x6, .int .i64 x7, .int .i64 x8, .int .i64 x9, .string bd] (w13.setCell ⟨w.heap.size + 1, 10, none⟩ (.string bd))) := H13.out.store 10 (.string bd)
    clear H13 c10 f10
    generalize w13.setCell ⟨w.heap.size + 1, 10, none⟩ (.string bd) = w14 at H14 ⊢
    have q0 : w14.cell? ⟨b, 0, none⟩ = some (.string text) := H14.out.rd.box.cell 0 rfl
    have q1 : w14.cell? ⟨b, 1, none⟩ = some (.int .i64 σ11.pos) := H14.out.rd.box.cell 1 rfl
    by_cases hp : σ11.pos < text.size
    · have hk0 : Hid (((⟨dest, frm, T, x3, x4, x5, x6, x7, x8, x9, bd⟩ : Fr), σ11.fail (some none)) = frameRun text) := by
        have := hk.out
        rw [if_pos hp] at this
        exact this
      have hp' : (σ11.pos : Int) < (text.size : Int) := by omega
      have gm : w14.cell? ⟨0, 0, none⟩ = some (.iface 111 (.pointer (some em))) := (G.out.below H14.out.rd.bel).more
      clear hk
      go_region
      go_wp2_with fail
      refine (rdFail (x := (some none)) σ11 _ H14.out.drew.rd).mono ?_
      rintro e w15 ⟨rfl, Rx, Kx⟩
      have H15 : Hid (Fs es em W b text w (σ11.fail (some none)) (.slice sa T.length sc) T #[.int .i64 dest, .int .i64 frm, .slice sa T.length sc, .int .i64 x3, .int .i64 x4, .int .i64 x5, .int .i64 x6, .int .i64 x7, .int .i64 x8, .int .i64 x9, .string bd] w15) := H14.out.drew.step Rx Kx
      clear Rx Kx H14 q0 q1 gm
      go_wp2_with (first | (refine wpList_load_row rfl 26 (.tmp 3) rfl (w.heap.size + 1) rfl _ _ _ _ H15.out.fr Tryd.underlying26 rfl (by kernel_rfl) ?_) | (refine wpList_store_row rfl 26 (.tmp 2) (.tmp 77) rfl w.heap.size _ rfl rfl _ _ H15.out.res (by kernel_rfl) rfl (frOne _ _ _ _ _ _ _ _ _ _ _ _ _) ?_))
      rw [jumps_ret]
      exact frEnd (f := ⟨dest, frm, T, x3, x4, x5, x6, x7, x8, x9, bd⟩) H15.out hk0.out _ rfl rfl
    · have hk0 : Hid (((⟨dest, frm, T, x3, x4, x5, x6, x7, x8, x9, bd⟩ : Fr), σ11) = frameRun text) := by
        have := hk.out
        rw [if_neg hp] at this
        exact this
      have hp' : ¬ (σ11.pos : Int) < (text.size : Int) := by omega
      clear hk
      go_region
      have H15 : Hid (Fs es em W b text w σ11 (.slice sa T.length sc) T #[.int .i64 dest, .int .i64 frm, .slice sa T.length sc, .int .i64 x3, .int .i64 x4, .int .i64 x5, .int .i64 x6, .int .i64 x7, .int .i64 x8, .int .i64 x9, .string bd] w14.drew) := H14.out.drew
      clear H14 q0 q1
      go_wp2_with (first | (refine wpList_load_row rfl 26 (.tmp 3) rfl (w.heap.size + 1) rfl _ _ _ _ H15.out.fr Tryd.underlying26 rfl (by kernel_rfl) ?_) | (refine wpList_store_row rfl 26 (.tmp 2) (.tmp 77) rfl w.heap.size _ rfl rfl _ _ H15.out.res (by kernel_rfl) rfl (frOne _ _ _ _ _ _ _ _ _ _ _ _ _) ?_))
      rw [jumps_ret]
      exact frEnd (f := ⟨dest, frm, T, x3, x4, x5, x6, x7, x8, x9, bd⟩) H15.out hk0.out _ rfl rfl
  case p2 =>
    rintro n a9 w9 ⟨dest, frm, σ, sl, T, k, hs, rfl, hT, H, hk⟩
    obtain ⟨u, rfl⟩ := hs.act
    obtain ⟨sa, sc, rfl⟩ := H.row.shape
    have hk : Hid (σ.kindRun text dest frm k T = frameRun text) := hk
    have H : Hid (Fs es em W b text w σ (.slice sa T.length sc) T (csOf dest frm (.slice sa T.length sc)) w9) := H
    clear hs
    simp only [frAct]
    go_wp2_with fail
    refine (rdNumber G hsz σ 1 (by decide) _ H.out.rd).mono ?_
    rintro e w8 ⟨rfl, R9, K9⟩
    have H9 : Hid (Fs es em W b text w (σ.number text 1).2 (.slice sa T.length sc) T (csOf dest frm (.slice sa T.length sc)) w8) := H.out.step R9 K9
    clear R9 K9
    have hkk : Hid (_ = frameRun text) := (Rst.kindRun_eq text dest frm k σ T).symm.trans hk.out
    generalize (σ.number text 1).2 = σ9 at H9 hkk
    generalize (σ.number text 1).1 = n9 at hkk ⊢
    by_cases h1 : n9 = 1
    · have hk0 : Hid (σ9.tagRun text dest frm k T = frameRun text) := by have := hkk.out; rw [if_pos h1] at this; exact this
      clear hkk
      subst h1
      go_wp2
      go_step3
      exact ⟨2 * k + 1, by omega, Or.inl ⟨rfl, dest, frm, σ9, .slice sa T.length sc, T, k, ⟨rfl, rfl, rfl, rfl, rfl⟩, rfl, hT, H9.out, hk0.out⟩⟩
    by_cases h2 : n9 = 2
    · have hk0 : Hid (σ9.headRun text dest frm T = frameRun text) := by have := hkk.out; rw [if_neg h1, if_pos h2] at this; exact this
      clear hkk
      subst h2
      go_wp2
      go_step3
      exact ⟨0, by omega, Or.inr (Or.inl ⟨rfl, dest, frm, σ9, .slice sa T.length sc, T, ⟨rfl, rfl, rfl, rfl, rfl⟩, rfl, by omega, H9.out, hk0.out⟩)⟩
    have hk0 : Hid ((⟨dest, frm, T, 0, 0, 0, 0, 0, 0, 0, ⟨#[]⟩⟩, σ9.fail (some (some 3))) = frameRun text) := by have := hkk.out; rw [if_neg h1, if_neg h2] at this; exact this
    clear hkk
    go_wp2_with fail
    refine (rdFail (x := some (some 3)) σ9 _ H9.out.rd).mono ?_
    rintro e w10 ⟨rfl, R10, K10⟩
    have H10 : Hid (Fs es em W b text w (σ9.fail (some (some 3))) (.slice sa T.length sc) T (csOf dest frm (.slice sa T.length sc)) w10) := H9.out.step R10 K10
    clear R10 K10
    go_wp2_with (first | (refine wpList_load_row rfl 26 (.tmp 3) rfl (w.heap.size + 1) rfl _ _ _ _ H10.out.fr Tryd.underlying26 rfl (by kernel_rfl) ?_) | (refine wpList_store_row rfl 26 (.tmp 2) (.tmp 20) rfl w.heap.size _ rfl rfl _ _ H10.out.res (by kernel_rfl) rfl (frOne _ _ _ _ _ _ _ _ _ _ _ _ _) ?_))
    rw [jumps_ret]
    exact frEnd (f := ⟨dest, frm, T, 0, 0, 0, 0, 0, 0, 0, ⟨#[]⟩⟩) H10.out hk0.out _ rfl rfl
end Go.Proofs.YtddjflaceokoaaaDoor
