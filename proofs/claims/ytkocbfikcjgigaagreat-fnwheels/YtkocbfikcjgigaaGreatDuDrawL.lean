/-
  The model's drawing of a heap of dues. By the verifier.
-/
import Derived.Test.YtkocbfikcjgigaaGreatM10WhDr
import Derived.Test.YtkocbfikcjgigaaGreatDuPutS
import Derived.Test.YtkocbfikcjgigaaGreatDuWhere
namespace Go.Proofs.YtkocbfikcjgigaaGreat
open Go.RowKit

/-- What lies while dues are drawn: those so far, the cursor. -/
structure DrL (W : World) (bc : Nat) (ac : Option Addr) (len cap : Nat) (w : World) (v : Value) (l : List Du) (x : World) : Prop where
  row : DuRow w.heap.size x v l
  cur : Cur W bc ac len cap x
  kp : Keep bc w x
  bl : bc < w.heap.size
section
variable {W : World} {bc : Nat} {ac : Option Addr} {len cap : Nat} {w : World} {v : Value} {l : List Du} {x x' : World}
theorem DrL.draw (h : DrL W bc ac len cap w v l x) (c : Cur W bc ac len cap x') (k : Keep bc x x') : DrL W bc ac len cap w v l x' := by
  have h0 := h.bl
  exact ⟨h.row.carry (fun g hg hl => k.block g (by have := (h.row.lt g hg).1; omega) hl), c, h.kp.trans k, h.bl⟩
theorem DrL.below (h : DrL W bc ac len cap w v l x) (g : Below x.heap.size x x') : DrL W bc ac len cap w v l x' :=
  ⟨h.row.carry (fun k _ hl => g.block k hl), h.cur.below h.cur.lt g, h.kp.trans ⟨g.size, fun k _ hk => g.block k hk⟩, h.bl⟩
/-- Another list in its place. -/
theorem DrL.list {v' : Value} {l' : List Du} (h : DrL W bc ac len cap w v l x) (r : DuRow w.heap.size x v' l') : DrL W bc ac len cap w v' l' x := ⟨r, h.cur, h.kp, h.bl⟩
/-- The list grew. -/
theorem DrL.grown {v' : Value} {l' : List Du} (h : DrL W bc ac len cap w v l x) (r : DuRow w.heap.size x' v' l') (g : Below w.heap.size x x') : DrL W bc ac len cap w v' l' x' :=
  ⟨r, h.cur.below h.bl g, ⟨Nat.le_trans h.kp.size g.size, fun k hk hl => (g.block k hl).trans (h.kp.block k hk hl)⟩, h.bl⟩
theorem DrL.size (h : DrL W bc ac len cap w v l x) : w.heap.size ≤ x.heap.size := h.kp.size
theorem DrL.at {a : Option Addr} {n c : Nat} (h : DrL W bc ac len cap w (.slice a n c) l x) (e : l.length = n) : DusAt x a l := by
  have := h.row
  rw [← e] at this
  exact this.at
end

set_option maxHeartbeats 6400000 in
set_option maxRecDepth 100000 in
theorem drawDues {W : World} {bc : Nat} {a : Option Addr} {len cap : Nat} (hc : Hid (Code W a len)) (w : World) (cur : Hid (Cur W bc a len cap w)) :
    Calls Tryz.prog 24 #[.pointer (some ⟨bc, 0, none⟩)] w fun e w' => (∃ v l, e = .returned v ∧ DuRow w.heap.size w' v l ∧ l.length ≤ 60) ∧ Cur W bc a len cap w' ∧ Keep bc w w' := by
  have hbc := cur.out.lt
  go_enter Tryz.func24, Tryz.ntmps24
  go_upto_region 2 with fail
  have X0 : Hid (DrL W bc a len cap w (.slice (some ⟨w.heap.size, 0, none⟩) 0 0) [] (w.alloc (.cells #[] 33))) := ⟨du_built w _ (Nat.le_refl _), cur.out.alloc _, (Keep.refl _ _).alloc _, hbc⟩
  generalize w.alloc (.cells #[] 33) = w0 at X0 ⊢
  go_wp2_with fail
  refine (drawBelow hc 14 (by omega) _ X0.out.cur).mono ?_
  rintro e w1 ⟨⟨n, rfl, n0, n1⟩, c1, k1⟩
  have X1 : Hid (DrL W bc a len cap w (.slice (some ⟨w.heap.size, 0, none⟩) 0 0) [] w1) := X0.out.draw c1 k1
  obtain ⟨N, rfl⟩ := Int.eq_ofNat_of_zero_le n0
  clear c1 k1 X0 n0
  go_wp2_with fail
  go_loopw [3, 4, 5] (fun s3 s4 _ wr => ∃ (j m : Nat) (l : List Du) (oa : Option Addr) (oc : Nat), s4 = .int .i64 (j : Int) ∧ s3 = .slice oa m oc ∧ j + m ≤ 13 ∧ Hid (l.length = m ∧ DrL W bc a len cap w (.slice oa m oc) l wr)) (fun _ s4 _ _ => (intOf s4).toNat)
  case atStart => exact ⟨N, 0, [], _, _, rfl, rfl, by omega, rfl, X1.out⟩
  case round =>
    obtain ⟨j, m, l, oa, oc, rfl, rfl, hj, HK⟩ := hrel
    clear X1 n1
    obtain ⟨wo, rfl⟩ : ∃ wo, wo = wr := ⟨_, rfl⟩
    by_cases h0 : 0 < j
    · have h0' : (0 : Int) < (j : Int) := by omega
      obtain ⟨j', rfl⟩ : ∃ j', j = j' + 1 := ⟨j - 1, by omega⟩
      go_wp2_with fail
      refine (drawDue hc _ HK.out.2.cur).mono ?_
      rintro e w2 ⟨⟨v, rfl, d, rfl⟩, c2, k2⟩
      have H2 : Hid (l.length = m ∧ DrL W bc a len cap w (.slice oa m oc) l w2) := ⟨HK.out.1, HK.out.2.draw c2 k2⟩
      clear c2 k2 HK
      have A1 := fun w => specDue d w
      have A2 := fun w h => specDuHas oa oc l d w (by rw [H2.out.1]; omega) h
      have A3 := fun w h => specDuPut oa oc l d w (by rw [H2.out.1]; omega) H2.out.2.row.none h
      rw [H2.out.1] at A2 A3
      generalize d.ok = dk at A1
      generalize duHas l d = dh at A2
      have Hp : Hid ((hput l d).length = m + 1) := by show (hput l d).length = m + 1; rw [hput_len, H2.out.1]
      generalize hput l d = l2 at A3 Hp
      obtain ⟨d0, d1⟩ := d
      simp only [Du.val] at A1 A2 A3 ⊢
      have A1' : Hid _ := A1
      have A2' : Hid _ := A2
      have A3' : Hid _ := A3
      clear A1 A2 A3
      have N1 : Hid (Boxed (w2.alloc (.cells #[.int .i64 0, .int .i64 0] 33)) w2.heap.size #[.int .i64 0, .int .i64 0] 33) := Boxed.new _ _ _
      obtain ⟨w3, hw3⟩ : ∃ w3, (w2.alloc (.cells #[.int .i64 0, .int .i64 0] 33)).setRow w2.heap.size #[.int .i64 d0, .int .i64 d1] = w3 := ⟨_, rfl⟩
      have b3 : Below w2.heap.size w2 w3 := by rw [← hw3]; exact below_setRow ((Below.refl _ _).alloc (Nat.le_refl _) _) (Nat.le_refl _) _
      have X3 : Hid ((l.length = m ∧ DrL W bc a len cap w (.slice oa m oc) l w3) ∧ Boxed w3 w2.heap.size #[.int .i64 d0, .int .i64 d1] 33) := ⟨⟨H2.out.1, H2.out.2.below b3⟩, by rw [← hw3]; exact setRow_heap _ _ _ _ _ _ N1.out⟩
      have H3 : Hid _ := hw3
      clear hw3 b3 H2
      go_upto_region 6 with (refine wpList_store_row rfl 33 (.tmp 5) (.tmp 15) rfl w2.heap.size #[.int .i64 d0, .int .i64 d1] rfl rfl _ _ N1.out (by kernel_rfl) rfl (duOnes _ _) ?_)
      rw [H3.out]
      generalize w2.heap.size = D at X3 ⊢
      clear N1 H3
      have f0 : w3.cell? ⟨D, 0, none⟩ = some (.int .i64 d0) := X3.out.2.cell 0 rfl
      have f1 : w3.cell? ⟨D, 1, none⟩ = some (.int .i64 d1) := X3.out.2.cell 1 rfl
      go_wp2_with fail
      refine (A1'.out _).mono ?_
      rintro e w4 ⟨rfl, q⟩
      have X4 : Hid ((l.length = m ∧ DrL W bc a len cap w (.slice oa m oc) l w4) ∧ Boxed w4 D #[.int .i64 d0, .int .i64 d1] 33) := ⟨⟨X3.out.1.1, X3.out.1.2.below q⟩, X3.out.2.below X3.out.2.under q⟩
      clear q X3 f0 f1 A1'
      have hj2 : (j' : Int) + 1 - 1 = (j' : Int) := by omega
      cases dk
      · go_wp2
        go_roundw
        case rel => exact ⟨j', m, l, oa, oc, by go_num, rfl, by omega, X4.out.1⟩
        case measure => simp [intOf]
      have f0 : w4.cell? ⟨D, 0, none⟩ = some (.int .i64 d0) := X4.out.2.cell 0 rfl
      have f1 : w4.cell? ⟨D, 1, none⟩ = some (.int .i64 d1) := X4.out.2.cell 1 rfl
      go_wp2_with fail
      refine (A2'.out _ (X4.out.1.2.at X4.out.1.1)).mono ?_
      rintro e w5 ⟨rfl, q⟩
      have X5 : Hid ((l.length = m ∧ DrL W bc a len cap w (.slice oa m oc) l w5) ∧ Boxed w5 D #[.int .i64 d0, .int .i64 d1] 33) := ⟨⟨X4.out.1.1, X4.out.1.2.below q⟩, X4.out.2.below X4.out.2.under q⟩
      clear q X4 f0 f1 A2'
      cases dh
      · have f0 : w5.cell? ⟨D, 0, none⟩ = some (.int .i64 d0) := X5.out.2.cell 0 rfl
        have f1 : w5.cell? ⟨D, 1, none⟩ = some (.int .i64 d1) := X5.out.2.cell 1 rfl
        go_wp2_with fail
        refine (A3'.out _ (X5.out.1.2.at X5.out.1.1)).mono ?_
        rintro e w6 ⟨g6, c6, rfl, r6, q⟩
        have X6 : Hid (l2.length = m + 1 ∧ DrL W bc a len cap w (.slice (some ⟨g6, 0, none⟩) (m + 1) c6) l2 w6) := ⟨Hp.out, (X5.out.1.2.below q).list (r6.mono (by have := X5.out.1.2.size; omega))⟩
        clear q r6 X5 f0 f1 A3'
        go_wp2
        go_roundw
        case rel => exact ⟨j', m + 1, l2, some ⟨g6, 0, none⟩, c6, by go_num, rfl, by omega, X6.out⟩
        case measure => simp [intOf]
      · go_wp2
        go_roundw
        case rel => exact ⟨j', m, l, oa, oc, by go_num, rfl, by omega, X5.out.1⟩
        case measure => simp [intOf]
    obtain rfl : j = 0 := by omega
    go_wp2_with fail
    refine (drawOnce hc 14 (by omega) _ HK.out.2.cur).mono ?_
    rintro e w2 ⟨⟨b2, rfl⟩, c2, k2⟩
    have H2 : Hid (l.length = m ∧ DrL W bc a len cap w (.slice oa m oc) l w2) := ⟨HK.out.1, HK.out.2.draw c2 k2⟩
    clear c2 k2 HK
    cases b2
    · go_wp2_with fail
      refine (drawOnce hc 40 (by omega) _ H2.out.2.cur).mono ?_
      rintro e wH ⟨⟨b9, rfl⟩, cH, kH⟩
      have HH : Hid (l.length = m ∧ DrL W bc a len cap w (.slice oa m oc) l wH) := ⟨H2.out.1, H2.out.2.draw cH kH⟩
      clear cH kH H2
      cases b9
      · go_wp2
        go_ret
        exact ⟨⟨_, l, rfl, HH.out.2.row, by rw [HH.out.1]; omega⟩, HH.out.2.cur, HH.out.2.kp⟩
      go_upto_region 12 with fail
      have XE : Hid (DrL W bc a len cap w (.slice (some ⟨wH.heap.size, 0, none⟩) 0 0) [] (wH.alloc (.cells #[] 33))) := (HH.out.2.below ((Below.refl _ _).alloc (Nat.le_refl _) _)).list (du_built wH _ HH.out.2.size)
      generalize wH.alloc (.cells #[] 33) = wI at XE ⊢
      generalize wH.heap.size = G at XE ⊢
      clear HH
      go_wp2_with fail
      go_loopw [3, 6] (fun s3 s6 wr => ∃ (k : Nat) (l : List Du) (oa : Option Addr) (oc : Nat), s6 = .int .i64 (k : Int) ∧ s3 = .slice oa k oc ∧ k ≤ 60 ∧ Hid (l.length = k ∧ DrL W bc a len cap w (.slice oa k oc) l wr)) (fun _ s6 _ => 60 - (intOf s6).toNat)
      case atStart => exact ⟨0, [], _, _, rfl, rfl, by omega, rfl, XE.out⟩
      case round =>
        obtain ⟨k, l, oa, oc, rfl, rfl, hk, HK⟩ := hrel
        clear XE
        obtain ⟨wo, rfl⟩ : ∃ wo, wo = wr := ⟨_, rfl⟩
        by_cases hlt : k < 60
        · have hlt' : (k : Int) < 60 := by omega
          have NB : Hid (Boxed (wo.alloc (.cells #[.int .i64 (k : Int), .int .i64 1] 33)) wo.heap.size #[.int .i64 (k : Int), .int .i64 1] 33 ∧ DuRow w.heap.size (wo.alloc (.cells #[.int .i64 (k : Int), .int .i64 1] 33)) (.slice oa k oc) l ∧ w.heap.size ≤ (wo.alloc (.cells #[.int .i64 (k : Int), .int .i64 1] 33)).heap.size) := ⟨Boxed.new _ _ _, HK.out.2.row.alloc _, by have := HK.out.2.size; simp; omega⟩
          have Up : Hid (∀ v' x', DuRow w.heap.size x' v' (l ++ [Du.mk (k : Int) 1]) → Below w.heap.size (wo.alloc (.cells #[.int .i64 (k : Int), .int .i64 1] 33)) x' → ∃ p q, v' = .slice p (k + 1) q ∧ (l ++ [Du.mk (k : Int) 1]).length = k + 1 ∧ DrL W bc a len cap w (.slice p (k + 1) q) (l ++ [Du.mk (k : Int) 1]) x') := fun v' x' h1 h2 => by
            obtain ⟨p, q, e⟩ := h1.shape
            have el : (l ++ [Du.mk (k : Int) 1]).length = k + 1 := by rw [List.length_append, HK.out.1]; rfl
            rw [el] at e
            subst e
            exact ⟨p, q, rfl, el, (HK.out.2.below ((Below.refl _ _).alloc (Nat.le_refl _) _)).grown h1 h2⟩
          have hl60 : Hid (l.length ≤ 1048576) := by show l.length ≤ 1048576; rw [HK.out.1]; omega
          clear HK
          go_wp2_with (refine du_list_where rfl (.tmp 41) (.tmp 44) rfl w.heap.size (.slice oa k oc) l (Du.mk (k : Int) 1) rfl NB.out.2.1 rfl NB.out.1 hl60.out NB.out.2.2 ?_; intro v' w' r1 r2 _ _; obtain ⟨p', q', rfl, U⟩ := Up.out v' w' r1 r2; have HU : Hid _ := U; clear U r1 r2)
          go_roundw
          case rel => exact ⟨k + 1, _, p', q', by go_num, rfl, by omega, HU.out⟩
          case measure => simp [intOf]; omega
        · obtain rfl : k = 60 := by omega
          go_wp2
          go_ret
          exact ⟨⟨_, l, rfl, HK.out.2.row, by rw [HK.out.1]; omega⟩, HK.out.2.cur, HK.out.2.kp⟩
    go_wp2_with fail
    refine (drawDue hc _ H2.out.2.cur).mono ?_
    rintro e w3 ⟨⟨v, rfl, d, rfl⟩, c3, k3⟩
    have H3 : Hid (l.length = m ∧ DrL W bc a len cap w (.slice oa m oc) l w3) := ⟨H2.out.1, H2.out.2.draw c3 k3⟩
    clear c3 k3 H2
    obtain ⟨d0, d1⟩ := d
    simp only [Du.val]
    have NB : Hid (Boxed (w3.alloc (.cells #[.int .i64 d0, .int .i64 d1] 33)) w3.heap.size #[.int .i64 d0, .int .i64 d1] 33 ∧ DuRow w.heap.size (w3.alloc (.cells #[.int .i64 d0, .int .i64 d1] 33)) (.slice oa m oc) l ∧ w.heap.size ≤ (w3.alloc (.cells #[.int .i64 d0, .int .i64 d1] 33)).heap.size) := ⟨Boxed.new _ _ _, H3.out.2.row.alloc _, by have := H3.out.2.size; simp; omega⟩
    have Up : Hid (∀ v' x', DuRow w.heap.size x' v' (l ++ [Du.mk d0 d1]) → Below w.heap.size (w3.alloc (.cells #[.int .i64 d0, .int .i64 d1] 33)) x' → ∃ p q, v' = .slice p (m + 1) q ∧ (l ++ [Du.mk d0 d1]).length = m + 1 ∧ DrL W bc a len cap w (.slice p (m + 1) q) (l ++ [Du.mk d0 d1]) x') := fun v' x' h1 h2 => by
      obtain ⟨p, q, e⟩ := h1.shape
      have el : (l ++ [Du.mk d0 d1]).length = m + 1 := by rw [List.length_append, H3.out.1]; rfl
      rw [el] at e
      subst e
      exact ⟨p, q, rfl, el, (H3.out.2.below ((Below.refl _ _).alloc (Nat.le_refl _) _)).grown h1 h2⟩
    have hl60 : Hid (l.length ≤ 1048576) := by show l.length ≤ 1048576; rw [H3.out.1]; omega
    clear H3
    go_upto_region 10 with (refine du_list_where rfl (.tmp 29) (.tmp 32) rfl w.heap.size (.slice oa m oc) l (Du.mk d0 d1) rfl NB.out.2.1 rfl NB.out.1 hl60.out NB.out.2.2 ?_; intro v' w' r1 r2 _ _; obtain ⟨p', q', rfl, U⟩ := Up.out v' w' r1 r2; have HU : Hid ((l ++ [Du.mk d0 d1]).length = m + 1 ∧ DrL W bc a len cap w (.slice p' (m + 1) q') (l ++ [Du.mk d0 d1]) w') := U; clear U r1 r2)
    generalize l ++ [Du.mk d0 d1] = l9 at HU
    clear NB Up hl60
    go_wp2_with fail
    refine (drawOnce hc 40 (by omega) _ HU.out.2.cur).mono ?_
    rintro e wH ⟨⟨b9, rfl⟩, cH, kH⟩
    have HH : Hid (l9.length = (m + 1) ∧ DrL W bc a len cap w (.slice p' (m + 1) q') l9 wH) := ⟨HU.out.1, HU.out.2.draw cH kH⟩
    clear cH kH HU
    cases b9
    · go_wp2
      go_ret
      exact ⟨⟨_, l9, rfl, HH.out.2.row, by rw [HH.out.1]; omega⟩, HH.out.2.cur, HH.out.2.kp⟩
    go_upto_region 12 with fail
    have XE : Hid (DrL W bc a len cap w (.slice (some ⟨wH.heap.size, 0, none⟩) 0 0) [] (wH.alloc (.cells #[] 33))) := (HH.out.2.below ((Below.refl _ _).alloc (Nat.le_refl _) _)).list (du_built wH _ HH.out.2.size)
    generalize wH.alloc (.cells #[] 33) = wI at XE ⊢
    generalize wH.heap.size = G at XE ⊢
    clear HH
    go_wp2_with fail
    go_loopw [3, 6] (fun s3 s6 wr => ∃ (k : Nat) (l : List Du) (oa : Option Addr) (oc : Nat), s6 = .int .i64 (k : Int) ∧ s3 = .slice oa k oc ∧ k ≤ 60 ∧ Hid (l.length = k ∧ DrL W bc a len cap w (.slice oa k oc) l wr)) (fun _ s6 _ => 60 - (intOf s6).toNat)
    case atStart => exact ⟨0, [], _, _, rfl, rfl, by omega, rfl, XE.out⟩
    case round =>
      obtain ⟨k, l, oa, oc, rfl, rfl, hk, HK⟩ := hrel
      clear XE
      obtain ⟨wo, rfl⟩ : ∃ wo, wo = wr := ⟨_, rfl⟩
      by_cases hlt : k < 60
      · have hlt' : (k : Int) < 60 := by omega
        have NB : Hid (Boxed (wo.alloc (.cells #[.int .i64 (k : Int), .int .i64 1] 33)) wo.heap.size #[.int .i64 (k : Int), .int .i64 1] 33 ∧ DuRow w.heap.size (wo.alloc (.cells #[.int .i64 (k : Int), .int .i64 1] 33)) (.slice oa k oc) l ∧ w.heap.size ≤ (wo.alloc (.cells #[.int .i64 (k : Int), .int .i64 1] 33)).heap.size) := ⟨Boxed.new _ _ _, HK.out.2.row.alloc _, by have := HK.out.2.size; simp; omega⟩
        have Up : Hid (∀ v' x', DuRow w.heap.size x' v' (l ++ [Du.mk (k : Int) 1]) → Below w.heap.size (wo.alloc (.cells #[.int .i64 (k : Int), .int .i64 1] 33)) x' → ∃ p q, v' = .slice p (k + 1) q ∧ (l ++ [Du.mk (k : Int) 1]).length = k + 1 ∧ DrL W bc a len cap w (.slice p (k + 1) q) (l ++ [Du.mk (k : Int) 1]) x') := fun v' x' h1 h2 => by
          obtain ⟨p, q, e⟩ := h1.shape
          have el : (l ++ [Du.mk (k : Int) 1]).length = k + 1 := by rw [List.length_append, HK.out.1]; rfl
          rw [el] at e
          subst e
          exact ⟨p, q, rfl, el, (HK.out.2.below ((Below.refl _ _).alloc (Nat.le_refl _) _)).grown h1 h2⟩
        have hl60 : Hid (l.length ≤ 1048576) := by show l.length ≤ 1048576; rw [HK.out.1]; omega
        clear HK
        go_wp2_with (refine du_list_where rfl (.tmp 41) (.tmp 44) rfl w.heap.size (.slice oa k oc) l (Du.mk (k : Int) 1) rfl NB.out.2.1 rfl NB.out.1 hl60.out NB.out.2.2 ?_; intro v' w' r1 r2 _ _; obtain ⟨p', q', rfl, U⟩ := Up.out v' w' r1 r2; have HU : Hid _ := U; clear U r1 r2)
        go_roundw
        case rel => exact ⟨k + 1, _, p', q', by go_num, rfl, by omega, HU.out⟩
        case measure => simp [intOf]; omega
      · obtain rfl : k = 60 := by omega
        go_wp2
        go_ret
        exact ⟨⟨_, l, rfl, HK.out.2.row, by rw [HK.out.1]; omega⟩, HK.out.2.cur, HK.out.2.kp⟩
end Go.Proofs.YtkocbfikcjgigaaGreat
