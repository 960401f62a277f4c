/-
  The walks of the model's l4Put and Put. By the verifier.
-/
import Derived.Test.YtilnjmpnhadidaaM2
import Derived.Test.YtilnjmpnhadidaaM1
import Derived.BigQuiet
namespace Go.Proofs.Ytilnjmpnhadidaa
open Go.RowKit

/-- Where it belongs. -/
def insN (l : List Rt) (r : Rt) : Nat := l.findIdx fun x => !x.lt r
theorem insN_le (l : List Rt) (r : Rt) : insN l r ≤ l.length := List.findIdx_le_length
theorem insN_lt {l : List Rt} {r : Rt} {k : Nat} (hk : k < insN l r) : (rtAt l k).lt r = true := by
  have hl : k < l.length := Nat.lt_of_lt_of_le hk (insN_le l r)
  have := List.not_of_lt_findIdx hk
  rw [rtAt_lt hl]
  simpa using this
theorem insN_hit {l : List Rt} {r : Rt} (h : insN l r < l.length) : (rtAt l (insN l r)).lt r = false := by
  have := List.findIdx_getElem (p := fun x : Rt => !x.lt r) (xs := l) (w := h)
  rw [rtAt_lt h]
  have h2 : (!(l[insN l r]).lt r) = true := this
  simpa using h2
/-- With it. -/
def putL (l : List Rt) (r : Rt) : List Rt := if atN l r.net r.bits < l.length then l.set (atN l r.net r.bits) r else l.take (insN l r) ++ [r] ++ l.drop (insN l r)

def ptPr (base : Nat) (W : World) (S : Value) (v2 : Value) (r : Rt) (l : List Rt) (k : Nat) : Nat → World → Value → Prop := fun i w v =>
  if i = 0 then RRow base w v [] ∧ ∃ g0, v = .slice (some ⟨g0, 0, none⟩) 0 0 else if i = 1 then v = S else if i = 2 then v = .int .i64 (k : Int)
  else if i = 3 then ∃ a c, v = .slice a k c ∧ a ≠ none ∧ RtsAt W a (l.take k) else if i = 4 then RRow base w v (l.take k) ∧ v ≠ .slice none 0 0 else if i = 5 then v = r.val
  else if i = 6 then ∃ b, v = .slice (some ⟨b, 0, none⟩) 1 1 ∧ Boxed w b #[.int .i64 r.net, .int .i64 r.bits, .int .i64 r.hop] 53 else if i = 7 then RRow base w v (l.take k ++ [r]) ∧ v ≠ .slice none 0 0
  else if i = 8 then v = v2 else RRow base w v (l.take k ++ [r] ++ l.drop k) ∧ v ≠ .slice none 0 0
def ptR (base : Nat) : Nat → World → World → Prop := fun i w w' => if i = 4 then ∀ k, k < w.heap.size → w.heap[k]? ≠ some (.cells #[] 53) → w'.heap[k]? = w.heap[k]? else if i = 7 ∨ i = 9 then Below base w w' else (w' = w ∨ ∃ o, w' = w.alloc o)
def ptUse : Nat → Nat := fun j => if j = 0 then 4 else if j = 4 then 7 else if j = 6 then 7 else if j = 7 then 9 else 11

theorem rts_of_box {w : World} {b : Nat} {r : Rt} (h : Boxed w b #[.int .i64 r.net, .int .i64 r.bits, .int .i64 r.hop] 53) : RtsAt w (some ⟨b, 0, none⟩) [r] := by
  intro k hk
  obtain rfl : k = 0 := by simpa using hk
  exact ⟨b, 0, rfl, h.under, h.cell 0 rfl, h.cell 1 rfl, h.cell 2 rfl⟩

theorem row_empty {base : Nat} {w : World} {g : Nat} (h : RRow base w (.slice (some ⟨g, 0, none⟩) 0 0) []) : w.heap[g]? = some (.cells #[] 53) := by
  rcases h.2 with ⟨e, _⟩ | ⟨g', cap, cur, e, _, hg, _, _, hs, _⟩
  · cases e
  · cases e
    have hc : cur = #[] := Array.eq_empty_of_size_eq_zero (by simpa using hs)
    rw [hg, hc]
set_option maxHeartbeats 1600000 in
theorem specL4Put (base g cap : Nat) (L : List Rt) (r : Rt) (w : World) (hT : L.length ≤ 1048576) (hb : base ≤ w.heap.size) (h : Hid (RRow base w (.slice (some ⟨g, 0, none⟩) L.length cap) L)) :
    Calls Try.prog 76 #[.slice (some ⟨g, 0, none⟩) L.length cap, r.val] w fun e w' => (∃ v, e = .returned v ∧ RRow base w' v (putL L r) ∧ v ≠ .slice none 0 0) ∧ Below base w w' := by
  have hcap := h.out.cap
  have hg := h.out.lt g rfl
  have A := fun w h => specAt (some ⟨g, 0, none⟩) cap L r.net r.bits w hT h
  obtain ⟨N, hN⟩ : ∃ N, atN L r.net r.bits = N := ⟨_, rfl⟩
  have hv : putL L r = if N < L.length then L.set N r else L.take (insN L r) ++ [r] ++ L.drop (insN L r) := by unfold putL; rw [hN]
  rw [hv]
  rw [hN] at A
  have hNl : N ≤ L.length := by rw [← hN]; exact atN_le _ _ _
  obtain ⟨W0, hW0⟩ : ∃ W, W = w.alloc (.cells #[.int .i64 r.net, .int .i64 r.bits, .int .i64 r.hop] 53) := ⟨_, rfl⟩
  have R0 : RRow base W0 (.slice (some ⟨g, 0, none⟩) L.length cap) L := by rw [hW0]; exact h.out.alloc _
  have B0 : Below base w W0 := by rw [hW0]; exact (Below.refl _ _).alloc hb _
  have X0 : Boxed W0 w.heap.size #[.int .i64 r.net, .int .i64 r.bits, .int .i64 r.hop] 53 := by rw [hW0]; exact Boxed.new _ _ _
  have HW : Hid (RRow base W0 (.slice (some ⟨g, 0, none⟩) L.length cap) L ∧ RtsAt W0 (some ⟨g, 0, none⟩) L ∧ Below base w W0 ∧ Boxed W0 w.heap.size #[.int .i64 r.net, .int .i64 r.bits, .int .i64 r.hop] 53 ∧ g < W0.heap.size) := ⟨R0, R0.at, B0, X0, (R0.lt g rfl).2⟩
  have HW0 : Hid (W0 = _) := hW0
  clear hW0 R0 B0 X0 h
  obtain ⟨len, hlen⟩ : ∃ n, L.length = n := ⟨_, rfl⟩
  have Hlen : Hid (L.length = len) := hlen
  have A' : Hid _ := A
  simp only [hlen] at A' HW hNl hT hcap ⊢
  clear A hv hN hlen
  by_cases hlt : N < len
  · simp only [if_pos hlt] at A' ⊢
    have hR := HW.out.1
    unfold RRow at hR
    rw [Hlen.out] at hR
    have hP := RRow.put hR N r
    have ex : ∀ j, j < len * 3 → ∃ v, W0.cell? ⟨g, j, none⟩ = some v := by
      intro j hj
      rw [hR.cellAt j hj]
      exact ⟨_, List.getElem?_eq_getElem (by rw [rcells_length, Hlen.out]; exact hj)⟩
    obtain ⟨y0, hy0⟩ := ex (N * 3) (by omega)
    obtain ⟨y1, hy1⟩ := ex (N * 3 + 1) (by omega)
    obtain ⟨y2, hy2⟩ := ex (N * 3 + 2) (by omega)
    have z0 := hR.frozenAt (N * 3)
    have z1 := hR.frozenAt (N * 3 + 1)
    have z2 := hR.frozenAt (N * 3 + 2)
    have x0 : W0.cell? ⟨w.heap.size, 0, none⟩ = some (.int .i64 r.net) := HW.out.2.2.2.1.cell 0 rfl
    have x1 : W0.cell? ⟨w.heap.size, 1, none⟩ = some (.int .i64 r.bits) := HW.out.2.2.2.1.cell 1 rfl
    have x2 : W0.cell? ⟨w.heap.size, 2, none⟩ = some (.int .i64 r.hop) := HW.out.2.2.2.1.cell 2 rfl
    have HE : Hid (_ ∧ Below base w (((W0.setCell ⟨g, N * 3, none⟩ (.int .i64 r.net)).setCell ⟨g, N * 3 + 1, none⟩ (.int .i64 r.bits)).setCell ⟨g, N * 3 + 2, none⟩ (.int .i64 r.hop))) := ⟨hP, ((HW.out.2.2.1.setCell hg.1 _).setCell hg.1 _).setCell hg.1 _⟩
    have HL : Hid ((L.set N r).length = len) := by show (L.set N r).length = len; rw [List.length_set, Hlen.out]
    clear hP hR ex
    unfold Rt.val
    go_enter Try.func76, Try.ntmps76
    go_wp2_with fail
    rw [← HW0.out]
    refine (A'.out _ HW.out.2.1).mono ?_
    rintro e w3 ⟨rfl, hw3⟩
    have hw3' := hw3.symm
    subst hw3'
    clear hw3
    go_wp2
    go_ret
    refine ⟨⟨_, rfl, ?_, by intro e; cases e⟩, HE.out.2⟩
    have := HE.out.1
    unfold RRow
    rw [HL.out]
    exact this
  · simp only [if_neg hlt] at A' ⊢
    obtain ⟨K, hK⟩ : ∃ K, insN L r = K := ⟨_, rfl⟩
    have HK : Hid (insN L r = K) := hK
    have hKl : K ≤ len := by rw [← hK, ← Hlen.out]; exact insN_le _ _
    rw [hK]
    clear hK
    unfold Rt.val
    go_enter Try.func76, Try.ntmps76
    go_wp2_with fail
    rw [← HW0.out]
    refine (A'.out _ HW.out.2.1).mono ?_
    rintro e w3 ⟨rfl, hw3⟩
    have hw3' := hw3.symm
    subst hw3'
    clear hw3
    go_wp2
    go_loopw [6] (fun i wr => ∃ k : Nat, k ≤ K ∧ i = .int .i64 k ∧ Hid (Below W0.heap.size W0 wr)) (fun i _ => len - (intOf i).toNat)
    case atStart => exact ⟨0, Nat.zero_le _, rfl, Below.refl _ _⟩
    case round =>
      obtain ⟨k, hk, rfl, HB⟩ := hrel
      have x0 := fun p : BelW wr.heap.size wr => cell_of_below (HB.out.trans (p.h.mono HB.out.size)) (show (⟨w.heap.size, 0, none⟩ : Addr).block < _ from HW.out.2.2.2.1.under) (HW.out.2.2.2.1.cell 0 rfl)
      have x1 := fun p : BelW wr.heap.size wr => cell_of_below (HB.out.trans (p.h.mono HB.out.size)) (show (⟨w.heap.size, 1, none⟩ : Addr).block < _ from HW.out.2.2.2.1.under) (HW.out.2.2.2.1.cell 1 rfl)
      have f0 : ∀ p : BelW wr.heap.size wr, p.w'.cell? ⟨w.heap.size, 0, none⟩ = some (.int .i64 r.net) := x0
      have f1 : ∀ p : BelW wr.heap.size wr, p.w'.cell? ⟨w.heap.size, 1, none⟩ = some (.int .i64 r.bits) := x1
      clear x0 x1
      haveI : Nonempty (BelW wr.heap.size wr) := ⟨⟨wr, Below.refl _ _⟩⟩
      by_cases hkl : k < len
      · have g0' := fun p : BelW wr.heap.size wr => (cells_at (HW.out.2.1.below (HB.out.trans (p.h.mono HB.out.size))) (k := k) (by rw [Hlen.out]; exact hkl)).1
        have g1' := fun p : BelW wr.heap.size wr => (cells_at (HW.out.2.1.below (HB.out.trans (p.h.mono HB.out.size))) (k := k) (by rw [Hlen.out]; exact hkl)).2.1
        simp only [Nat.zero_add] at g0' g1'
        have hkl' : (k : Int) < (len : Int) := by omega
        by_cases hkK : k = K
        · subst hkK
          have hh := insN_hit (l := L) (r := r) (by rw [HK.out, Hlen.out]; omega)
          rw [HK.out] at hh
          have hz := lt_false hh
          clear hh
          generalize rtAt L k = y at g0' g1' hz
          have g0 := g0'
          have g1 := g1'
          clear g0' g1'
          by_cases hz1 : r.net < y.net
          · have hd1 : decide (y.net < r.net) = false := by simp; omega
            have hd2 : (y.net == r.net) = false := by rw [beq_eq_false_iff_ne]; omega
            clear hz hz1
            go_wp2
            refine region_below wr.heap.size (by kernel_rfl) (by kernel_rfl) ?_
            repeat (go_big_quiet_step (fail))
            refine wpQuiet_nil ?_
            intro wq hx
            have hq := BelW.out hx
            have HB2 : Hid (Below W0.heap.size W0 wq) := HB.out.trans (hq.mono HB.out.size)
            clear hx hq f0 f1 g0 g1
            have Hm : Hid ((L.drop k).length = len - k) := by show (L.drop k).length = len - k; rw [List.length_drop, Hlen.out]
            have HM : Hid (RtsAt wq (some ⟨g, k * 3, none⟩) (L.drop k)) := by
              have := rts_drop (HW.out.2.1.below HB2.out) k
              show RtsAt _ _ _
              simpa using this
            go_wp2_with (at_builtin; refine row_app rfl (.tmp 57) (.tmp 60) rfl wq.heap.size _ [] _ _ _ (L.drop k) Hm.out rfl rfl (row_built wq _ (Nat.le_refl _)) (HM.out.alloc _) (by simp) (by rw [Hm.out]; simp; omega) (by simp) ?_)
            intro v2 w2 r2 b2 _ n2
            have B1 : Below wq.heap.size wq w2 := ((Below.refl _ wq).alloc (Nat.le_refl _) _).trans b2
            have B2 : Below W0.heap.size W0 w2 := HB2.out.trans (B1.mono HB2.out.size)
            have hbs : base ≤ W0.heap.size := by have := HW.out.2.2.1.size; omega
            obtain ⟨g2, c2, hv2⟩ := r2.some (fun e => by have := n2 e; cases this)
            have hr2 : RtsAt w2 (some ⟨g2, 0, none⟩) (L.drop k) := by rw [hv2] at r2; exact r2.at
            have hv2' : v2 = .slice (some ⟨g2, 0, none⟩) (len - k) c2 := by rw [hv2]; show Value.slice _ (L.drop k).length _ = _; rw [Hm.out]
            have H2 : Hid (RtsAt w2 (some ⟨g, 0, none⟩) L ∧ Boxed w2 w.heap.size #[.int .i64 r.net, .int .i64 r.bits, .int .i64 r.hop] 53 ∧ RtsAt w2 (some ⟨g2, 0, none⟩) (L.drop k) ∧ Below base w w2 ∧ base ≤ w2.heap.size) :=
              ⟨HW.out.2.1.below B2, HW.out.2.2.2.1.below HW.out.2.2.2.1.under B2, hr2, HW.out.2.2.1.trans (B2.mono hbs), Nat.le_trans hbs B2.size⟩
            subst hv2'
            clear r2 b2 n2 B1 B2 hbs hv2 hr2 HM HB2
            go_wp2_with fail
            rename_i K1 hK1
            have hl1 : (L.take k).length = k := by rw [List.length_take, Hlen.out]; omega
            have hkc : k ≤ cap := by omega
            refine region_all (by kernel_rfl) (by kernel_rfl) (by kernel_rfl) ptUse (fun x => Below w2.heap.size w2 x) (ptR w2.heap.size) (ptPr w2.heap.size w2 (.slice (some ⟨g, 0, none⟩) len cap) (.slice (some ⟨g2, 0, none⟩) (len - k) c2) r L k) ?hR ?h0 ?step ?last
            case hR =>
              intro i j x x' v _ hjs hij hu h1 h2 hp hr
              have same : ∀ l, i ≠ 4 → i ≠ 7 → i ≠ 9 → RRow w2.heap.size x v l → RRow w2.heap.size x' v l := by
                intro l h4 h7 h9 hrow
                unfold ptR at hr
                rw [if_neg h4, if_neg (by omega)] at hr
                rcases hr with rfl | ⟨o, rfl⟩
                · exact hrow
                · exact hrow.alloc _
              by_cases hj0 : j = 0
              · subst hj0
                by_cases hi4 : i = 4
                · subst hi4; exact absurd rfl hu
                by_cases hi7 : i = 7
                · subst hi7; exact no_false h2 (by kernel_rfl)
                by_cases hi9 : i = 9
                · subst hi9; exact no_false h2 (by kernel_rfl)
                exact ⟨same _ hi4 hi7 hi9 hp.1, hp.2⟩
              by_cases hj4 : j = 4
              · subst hj4
                by_cases hi7 : i = 7
                · subst hi7; exact absurd rfl hu
                by_cases hi9 : i = 9
                · subst hi9; exact no_false h2 (by kernel_rfl)
                exact ⟨same _ (by omega) hi7 hi9 hp.1, hp.2⟩
              by_cases hj6 : j = 6
              · subst hj6
                obtain ⟨b, e, hbx⟩ : ∃ b, v = .slice (some ⟨b, 0, none⟩) 1 1 ∧ Boxed x b #[.int .i64 r.net, .int .i64 r.bits, .int .i64 r.hop] 53 := hp
                by_cases hi7 : i = 7
                · subst hi7; exact absurd rfl hu
                by_cases hi9 : i = 9
                · subst hi9; exact no_false h2 (by kernel_rfl)
                by_cases hi4 : i = 4
                · subst hi4
                  refine ⟨b, e, ?_⟩
                  have hh : ∀ k, k < x.heap.size → x.heap[k]? ≠ some (.cells #[] 53) → x'.heap[k]? = x.heap[k]? := hr
                  unfold Boxed at hbx ⊢
                  rw [hh b (heapLt hbx) (by rw [hbx]; simp)]
                  exact hbx
                unfold ptR at hr
                rw [if_neg hi4, if_neg (by omega)] at hr
                rcases hr with rfl | ⟨o, rfl⟩
                · exact ⟨b, e, hbx⟩
                · exact ⟨b, e, hbx.more _⟩
              by_cases hj7 : j = 7
              · subst hj7
                by_cases hi4 : i = 4
                · subst hi4; exact no_false h1 (by kernel_rfl)
                by_cases hi9 : i = 9
                · subst hi9; exact absurd rfl hu
                exact ⟨same _ hi4 (by omega) hi9 hp.1, hp.2⟩
              by_cases hj9 : j = 9
              · subst hj9
                by_cases hi4 : i = 4
                · subst hi4; exact no_false h1 (by kernel_rfl)
                by_cases hi7 : i = 7
                · subst hi7; exact no_false h1 (by kernel_rfl)
                exact ⟨same _ hi4 hi7 (by omega) hp.1, hp.2⟩
              by_cases hj10 : j = 10
              · subst hj10
                by_cases hi4 : i = 4
                · subst hi4; exact no_false h1 (by kernel_rfl)
                by_cases hi7 : i = 7
                · subst hi7; exact no_false h1 (by kernel_rfl)
                by_cases hi9 : i = 9
                · subst hi9; exact no_false h1 (by kernel_rfl)
                exact ⟨same _ hi4 hi7 hi9 hp.1, hp.2⟩
              have hj11 : j < 11 := hjs
              have hjc : j = 1 ∨ j = 2 ∨ j = 3 ∨ j = 5 ∨ j = 8 := by omega
              rcases hjc with rfl | rfl | rfl | rfl | rfl
              · exact hp
              · exact hp
              · exact hp
              · exact hp
              · exact hp
            case h0 => exact (Below.refl _ _).drew
            case step =>
              intro i o hi ho a x hkp hI hp
              have t0 : a.tmps.getD 0 undef = .slice (some ⟨g, 0, none⟩) len cap := hkp.slot 0 (by kernel_rfl)
              have t6 : a.tmps.getD 6 undef = .int .i64 (k : Int) := hkp.slot 6 (by kernel_rfl)
              have t7 : a.tmps.getD 7 undef = .slice (some ⟨g2, 0, none⟩) (len - k) c2 := hkp.slot 7 (by kernel_rfl)
              have t3 : a.tmps.getD 3 undef = .pointer (some ⟨w.heap.size, 0, none⟩) := hkp.slot 3 (by kernel_rfl)
              have t3' : a.tmps[3]?.getD undef = .pointer (some ⟨w.heap.size, 0, none⟩) := by simpa using t3
              have hX := H2.out.2.1.below H2.out.2.1.under hI
              have d0 : x.cell? ⟨w.heap.size, 0, none⟩ = some (.int .i64 r.net) := hX.cell 0 rfl
              have d1 : x.cell? ⟨w.heap.size, 1, none⟩ = some (.int .i64 r.bits) := hX.cell 1 rfl
              have d2 : x.cell? ⟨w.heap.size, 2, none⟩ = some (.int .i64 r.hop) := hX.cell 2 rfl
              have hcases : i = 0 ∨ i = 1 ∨ i = 2 ∨ i = 3 ∨ i = 4 ∨ i = 5 ∨ i = 6 ∨ i = 7 ∨ i = 8 ∨ i = 9 ∨ i = 10 := by
                have : i < 11 := hi
                omega
              rcases hcases with rfl | rfl | rfl | rfl | rfl | rfl | rfl | rfl | rfl | rfl | rfl
              · cases ho
                refine ⟨rfl, ?_⟩
                unfold Oper.wp
                simp [go_sem]
                exact ⟨_, rfl, .inr ⟨_, rfl⟩, hI.alloc hI.size _, row_built x _ hI.size, _, rfl⟩
              · cases ho
                exact ⟨rfl, op_move 0 rfl ⟨_, rfl, .inl rfl, hI, t0⟩⟩
              · cases ho
                exact ⟨rfl, op_move 6 rfl ⟨_, rfl, .inl rfl, hI, t6⟩⟩
              · cases ho
                have e1 : a.tmps[63]?.getD undef = .slice (some ⟨g, 0, none⟩) len cap := by simpa [ptPr] using hp 1 63 (by decide) (.inr (by decide)) rfl
                have e2 : a.tmps[64]?.getD undef = .int .i64 (k : Int) := by simpa [ptPr] using hp 2 64 (by decide) (.inr (by decide)) rfl
                refine ⟨rfl, ?_⟩
                unfold Oper.wp
                simp [go_sem, e1, e2, hkc]
                exact ⟨_, rfl, .inl rfl, hI, some ⟨g, 0, none⟩, cap, rfl, by simp, rts_take H2.out.1 k⟩
              · cases ho
                obtain ⟨r0, g0, eg0⟩ : RRow w2.heap.size x (a.tmps.getD 62 undef) [] ∧ ∃ g0, a.tmps.getD 62 undef = .slice (some ⟨g0, 0, none⟩) 0 0 := hp 0 62 (by decide) (.inl rfl) rfl
                obtain ⟨sa, sc, es, hne, er⟩ : ∃ sa sc, a.tmps.getD 65 undef = .slice sa k sc ∧ sa ≠ none ∧ RtsAt w2 sa (L.take k) := hp 3 65 (by decide) (.inr (by decide)) rfl
                refine ⟨rfl, op_app (.tmp 62) (.tmp 65) rfl w2.heap.size _ [] sa k sc (L.take k) hl1 rfl es r0 (er.below hI) (fun e => absurd e hne) (by rw [hl1]; simp; omega) hI.size fun v' w' hr hb hgr hnil => ⟨_, rfl, ?_, hI.trans hb, hr, ?_⟩⟩
                · show ∀ q, q < x.heap.size → x.heap[q]? ≠ some (.cells #[] 53) → w'.heap[q]? = x.heap[q]?
                  intro q hq hne2
                  refine hgr.block q hq fun e => ?_
                  rw [show a.eval (.tmp 62) = a.tmps.getD 62 undef from rfl, eg0] at e
                  obtain rfl : q = g0 := by simpa [Value.ownBlock] using e
                  rw [eg0] at r0
                  exact hne2 (row_empty r0)
                · intro e
                  have := hnil e
                  rw [show a.eval (.tmp 62) = a.tmps.getD 62 undef from rfl, eg0] at this
                  cases this
              · cases ho
                refine ⟨rfl, ?_⟩
                unfold Oper.wp
                simp [go_sem, t3', d0, d1, d2]
                exact ⟨_, rfl, .inl rfl, hI, rfl⟩
              · cases ho
                have e1 : a.tmps[67]?.getD undef = .agg #[.int .i64 r.net, .int .i64 r.bits, .int .i64 r.hop] := by simpa [ptPr, Rt.val] using hp 5 67 (by decide) (.inr (by decide)) rfl
                refine ⟨rfl, ?_⟩
                unfold Oper.wp
                simp [go_sem, e1]
                exact ⟨_, rfl, .inr ⟨_, rfl⟩, hI.alloc hI.size _, _, rfl, Boxed.new x _ _⟩
              · cases ho
                obtain ⟨r4, n4⟩ : RRow w2.heap.size x (a.tmps.getD 66 undef) (L.take k) ∧ a.tmps.getD 66 undef ≠ .slice none 0 0 := hp 4 66 (by decide) (.inl rfl) rfl
                obtain ⟨b6, e6, hbx⟩ : ∃ b, a.tmps.getD 68 undef = .slice (some ⟨b, 0, none⟩) 1 1 ∧ Boxed x b #[.int .i64 r.net, .int .i64 r.bits, .int .i64 r.hop] 53 := hp 6 68 (by decide) (.inl rfl) rfl
                refine ⟨rfl, op_app (.tmp 66) (.tmp 68) rfl w2.heap.size _ (L.take k) (some ⟨b6, 0, none⟩) 1 1 [r] rfl rfl e6 r4 (rts_of_box hbx) (by simp) (by rw [hl1]; simp; omega) hI.size fun v' w' hr hb _ hnil => ⟨_, rfl, ?_, hI.trans hb, hr, fun e => n4 (hnil e)⟩⟩
                exact hb
              · cases ho
                exact ⟨rfl, op_move 7 rfl ⟨_, rfl, .inl rfl, hI, t7⟩⟩
              · cases ho
                obtain ⟨r7, n7⟩ : RRow w2.heap.size x (a.tmps.getD 69 undef) (L.take k ++ [r]) ∧ a.tmps.getD 69 undef ≠ .slice none 0 0 := hp 7 69 (by decide) (.inl rfl) rfl
                have e8 : a.tmps.getD 70 undef = .slice (some ⟨g2, 0, none⟩) (len - k) c2 := hp 8 70 (by decide) (.inr (by decide)) rfl
                refine ⟨rfl, op_app (.tmp 69) (.tmp 70) rfl w2.heap.size _ (L.take k ++ [r]) (some ⟨g2, 0, none⟩) (len - k) c2 (L.drop k) Hm.out rfl e8 r7 (H2.out.2.2.1.below hI) (by simp) (by rw [List.length_append, hl1, Hm.out]; simp; omega) hI.size fun v' w' hr hb _ hnil => ⟨_, rfl, ?_, hI.trans hb, hr, fun e => n7 (hnil e)⟩⟩
                exact hb
              · cases ho
                have r9 : RRow w2.heap.size x (a.tmps.getD 71 undef) (L.take k ++ [r] ++ L.drop k) ∧ a.tmps.getD 71 undef ≠ .slice none 0 0 := hp 9 71 (by decide) (.inr (by decide)) rfl
                refine ⟨rfl, ?_⟩
                unfold Oper.wp
                simp [execOp, Act.eval, Oper.upon]
                exact ⟨_, rfl, .inl rfl, hI, (show RRow w2.heap.size x _ (L.take k ++ [r] ++ L.drop k) ∧ _ ≠ Value.slice none 0 0 from by simpa using r9)⟩
            case last =>
              intro a x hkp hI hp
              obtain ⟨r10, n10⟩ : RRow w2.heap.size x (a.tmps.getD 4 undef) (L.take k ++ [r] ++ L.drop k) ∧ a.tmps.getD 4 undef ≠ .slice none 0 0 := hp 10 4 (by decide) rfl
              have hdf : a.defers = [] := hkp.defers
              have HE : Hid (RRow base x (a.tmps.getD 4 undef) (L.take k ++ [r] ++ L.drop k) ∧ a.tmps.getD 4 undef ≠ .slice none 0 0 ∧ Below base w x) := ⟨r10.mono H2.out.2.2.2.2, n10, H2.out.2.2.2.1.trans (hI.mono H2.out.2.2.2.2)⟩
              clear hp hkp r10 n10 hI
              show Exit.then _ _ .normal a _
              simp only [Exit.then]
              refine hK1 _ _ ?_
              go_wp2
              exact bodyPost_ret (results_tmp rfl _ _ _) hdf ⟨⟨_, rfl, HE.out.1, HE.out.2.1⟩, HE.out.2.2⟩
          · have hz2 : y.net = r.net := by omega
            have hz3 : r.bits ≤ y.bits := by omega
            have hd1 : decide (y.net < r.net) = false := by simp; omega
            have hd3 : decide (y.bits < r.bits) = false := by simp; omega
            have hd2 : (y.net == r.net) = true := by rw [beq_iff_eq]; exact hz2
            clear hz hz1 hz2 hz3
            go_wp2
            refine region_below wr.heap.size (by kernel_rfl) (by kernel_rfl) ?_
            repeat (go_big_quiet_step (fail))
            refine wpQuiet_nil ?_
            intro wq hx
            have hq := BelW.out hx
            have HB2 : Hid (Below W0.heap.size W0 wq) := HB.out.trans (hq.mono HB.out.size)
            clear hx hq f0 f1 g0 g1
            have Hm : Hid ((L.drop k).length = len - k) := by show (L.drop k).length = len - k; rw [List.length_drop, Hlen.out]
            have HM : Hid (RtsAt wq (some ⟨g, k * 3, none⟩) (L.drop k)) := by
              have := rts_drop (HW.out.2.1.below HB2.out) k
              show RtsAt _ _ _
              simpa using this
            go_wp2_with (at_builtin; refine row_app rfl (.tmp 57) (.tmp 60) rfl wq.heap.size _ [] _ _ _ (L.drop k) Hm.out rfl rfl (row_built wq _ (Nat.le_refl _)) (HM.out.alloc _) (by simp) (by rw [Hm.out]; simp; omega) (by simp) ?_)
            intro v2 w2 r2 b2 _ n2
            have B1 : Below wq.heap.size wq w2 := ((Below.refl _ wq).alloc (Nat.le_refl _) _).trans b2
            have B2 : Below W0.heap.size W0 w2 := HB2.out.trans (B1.mono HB2.out.size)
            have hbs : base ≤ W0.heap.size := by have := HW.out.2.2.1.size; omega
            obtain ⟨g2, c2, hv2⟩ := r2.some (fun e => by have := n2 e; cases this)
            have hr2 : RtsAt w2 (some ⟨g2, 0, none⟩) (L.drop k) := by rw [hv2] at r2; exact r2.at
            have hv2' : v2 = .slice (some ⟨g2, 0, none⟩) (len - k) c2 := by rw [hv2]; show Value.slice _ (L.drop k).length _ = _; rw [Hm.out]
            have H2 : Hid (RtsAt w2 (some ⟨g, 0, none⟩) L ∧ Boxed w2 w.heap.size #[.int .i64 r.net, .int .i64 r.bits, .int .i64 r.hop] 53 ∧ RtsAt w2 (some ⟨g2, 0, none⟩) (L.drop k) ∧ Below base w w2 ∧ base ≤ w2.heap.size) :=
              ⟨HW.out.2.1.below B2, HW.out.2.2.2.1.below HW.out.2.2.2.1.under B2, hr2, HW.out.2.2.1.trans (B2.mono hbs), Nat.le_trans hbs B2.size⟩
            subst hv2'
            clear r2 b2 n2 B1 B2 hbs hv2 hr2 HM HB2
            go_wp2_with fail
            rename_i K1 hK1
            have hl1 : (L.take k).length = k := by rw [List.length_take, Hlen.out]; omega
            have hkc : k ≤ cap := by omega
            refine region_all (by kernel_rfl) (by kernel_rfl) (by kernel_rfl) ptUse (fun x => Below w2.heap.size w2 x) (ptR w2.heap.size) (ptPr w2.heap.size w2 (.slice (some ⟨g, 0, none⟩) len cap) (.slice (some ⟨g2, 0, none⟩) (len - k) c2) r L k) ?hR ?h0 ?step ?last
            case hR =>
              intro i j x x' v _ hjs hij hu h1 h2 hp hr
              have same : ∀ l, i ≠ 4 → i ≠ 7 → i ≠ 9 → RRow w2.heap.size x v l → RRow w2.heap.size x' v l := by
                intro l h4 h7 h9 hrow
                unfold ptR at hr
                rw [if_neg h4, if_neg (by omega)] at hr
                rcases hr with rfl | ⟨o, rfl⟩
                · exact hrow
                · exact hrow.alloc _
              by_cases hj0 : j = 0
              · subst hj0
                by_cases hi4 : i = 4
                · subst hi4; exact absurd rfl hu
                by_cases hi7 : i = 7
                · subst hi7; exact no_false h2 (by kernel_rfl)
                by_cases hi9 : i = 9
                · subst hi9; exact no_false h2 (by kernel_rfl)
                exact ⟨same _ hi4 hi7 hi9 hp.1, hp.2⟩
              by_cases hj4 : j = 4
              · subst hj4
                by_cases hi7 : i = 7
                · subst hi7; exact absurd rfl hu
                by_cases hi9 : i = 9
                · subst hi9; exact no_false h2 (by kernel_rfl)
                exact ⟨same _ (by omega) hi7 hi9 hp.1, hp.2⟩
              by_cases hj6 : j = 6
              · subst hj6
                obtain ⟨b, e, hbx⟩ : ∃ b, v = .slice (some ⟨b, 0, none⟩) 1 1 ∧ Boxed x b #[.int .i64 r.net, .int .i64 r.bits, .int .i64 r.hop] 53 := hp
                by_cases hi7 : i = 7
                · subst hi7; exact absurd rfl hu
                by_cases hi9 : i = 9
                · subst hi9; exact no_false h2 (by kernel_rfl)
                by_cases hi4 : i = 4
                · subst hi4
                  refine ⟨b, e, ?_⟩
                  have hh : ∀ k, k < x.heap.size → x.heap[k]? ≠ some (.cells #[] 53) → x'.heap[k]? = x.heap[k]? := hr
                  unfold Boxed at hbx ⊢
                  rw [hh b (heapLt hbx) (by rw [hbx]; simp)]
                  exact hbx
                unfold ptR at hr
                rw [if_neg hi4, if_neg (by omega)] at hr
                rcases hr with rfl | ⟨o, rfl⟩
                · exact ⟨b, e, hbx⟩
                · exact ⟨b, e, hbx.more _⟩
              by_cases hj7 : j = 7
              · subst hj7
                by_cases hi4 : i = 4
                · subst hi4; exact no_false h1 (by kernel_rfl)
                by_cases hi9 : i = 9
                · subst hi9; exact absurd rfl hu
                exact ⟨same _ hi4 (by omega) hi9 hp.1, hp.2⟩
              by_cases hj9 : j = 9
              · subst hj9
                by_cases hi4 : i = 4
                · subst hi4; exact no_false h1 (by kernel_rfl)
                by_cases hi7 : i = 7
                · subst hi7; exact no_false h1 (by kernel_rfl)
                exact ⟨same _ hi4 hi7 (by omega) hp.1, hp.2⟩
              by_cases hj10 : j = 10
              · subst hj10
                by_cases hi4 : i = 4
                · subst hi4; exact no_false h1 (by kernel_rfl)
                by_cases hi7 : i = 7
                · subst hi7; exact no_false h1 (by kernel_rfl)
                by_cases hi9 : i = 9
                · subst hi9; exact no_false h1 (by kernel_rfl)
                exact ⟨same _ hi4 hi7 hi9 hp.1, hp.2⟩
              have hj11 : j < 11 := hjs
              have hjc : j = 1 ∨ j = 2 ∨ j = 3 ∨ j = 5 ∨ j = 8 := by omega
              rcases hjc with rfl | rfl | rfl | rfl | rfl
              · exact hp
              · exact hp
              · exact hp
              · exact hp
              · exact hp
            case h0 => exact (Below.refl _ _).drew
            case step =>
              intro i o hi ho a x hkp hI hp
              have t0 : a.tmps.getD 0 undef = .slice (some ⟨g, 0, none⟩) len cap := hkp.slot 0 (by kernel_rfl)
              have t6 : a.tmps.getD 6 undef = .int .i64 (k : Int) := hkp.slot 6 (by kernel_rfl)
              have t7 : a.tmps.getD 7 undef = .slice (some ⟨g2, 0, none⟩) (len - k) c2 := hkp.slot 7 (by kernel_rfl)
              have t3 : a.tmps.getD 3 undef = .pointer (some ⟨w.heap.size, 0, none⟩) := hkp.slot 3 (by kernel_rfl)
              have t3' : a.tmps[3]?.getD undef = .pointer (some ⟨w.heap.size, 0, none⟩) := by simpa using t3
              have hX := H2.out.2.1.below H2.out.2.1.under hI
              have d0 : x.cell? ⟨w.heap.size, 0, none⟩ = some (.int .i64 r.net) := hX.cell 0 rfl
              have d1 : x.cell? ⟨w.heap.size, 1, none⟩ = some (.int .i64 r.bits) := hX.cell 1 rfl
              have d2 : x.cell? ⟨w.heap.size, 2, none⟩ = some (.int .i64 r.hop) := hX.cell 2 rfl
              have hcases : i = 0 ∨ i = 1 ∨ i = 2 ∨ i = 3 ∨ i = 4 ∨ i = 5 ∨ i = 6 ∨ i = 7 ∨ i = 8 ∨ i = 9 ∨ i = 10 := by
                have : i < 11 := hi
                omega
              rcases hcases with rfl | rfl | rfl | rfl | rfl | rfl | rfl | rfl | rfl | rfl | rfl
              · cases ho
                refine ⟨rfl, ?_⟩
                unfold Oper.wp
                simp [go_sem]
                exact ⟨_, rfl, .inr ⟨_, rfl⟩, hI.alloc hI.size _, row_built x _ hI.size, _, rfl⟩
              · cases ho
                exact ⟨rfl, op_move 0 rfl ⟨_, rfl, .inl rfl, hI, t0⟩⟩
              · cases ho
                exact ⟨rfl, op_move 6 rfl ⟨_, rfl, .inl rfl, hI, t6⟩⟩
              · cases ho
                have e1 : a.tmps[63]?.getD undef = .slice (some ⟨g, 0, none⟩) len cap := by simpa [ptPr] using hp 1 63 (by decide) (.inr (by decide)) rfl
                have e2 : a.tmps[64]?.getD undef = .int .i64 (k : Int) := by simpa [ptPr] using hp 2 64 (by decide) (.inr (by decide)) rfl
                refine ⟨rfl, ?_⟩
                unfold Oper.wp
                simp [go_sem, e1, e2, hkc]
                exact ⟨_, rfl, .inl rfl, hI, some ⟨g, 0, none⟩, cap, rfl, by simp, rts_take H2.out.1 k⟩
              · cases ho
                obtain ⟨r0, g0, eg0⟩ : RRow w2.heap.size x (a.tmps.getD 62 undef) [] ∧ ∃ g0, a.tmps.getD 62 undef = .slice (some ⟨g0, 0, none⟩) 0 0 := hp 0 62 (by decide) (.inl rfl) rfl
                obtain ⟨sa, sc, es, hne, er⟩ : ∃ sa sc, a.tmps.getD 65 undef = .slice sa k sc ∧ sa ≠ none ∧ RtsAt w2 sa (L.take k) := hp 3 65 (by decide) (.inr (by decide)) rfl
                refine ⟨rfl, op_app (.tmp 62) (.tmp 65) rfl w2.heap.size _ [] sa k sc (L.take k) hl1 rfl es r0 (er.below hI) (fun e => absurd e hne) (by rw [hl1]; simp; omega) hI.size fun v' w' hr hb hgr hnil => ⟨_, rfl, ?_, hI.trans hb, hr, ?_⟩⟩
                · show ∀ q, q < x.heap.size → x.heap[q]? ≠ some (.cells #[] 53) → w'.heap[q]? = x.heap[q]?
                  intro q hq hne2
                  refine hgr.block q hq fun e => ?_
                  rw [show a.eval (.tmp 62) = a.tmps.getD 62 undef from rfl, eg0] at e
                  obtain rfl : q = g0 := by simpa [Value.ownBlock] using e
                  rw [eg0] at r0
                  exact hne2 (row_empty r0)
                · intro e
                  have := hnil e
                  rw [show a.eval (.tmp 62) = a.tmps.getD 62 undef from rfl, eg0] at this
                  cases this
              · cases ho
                refine ⟨rfl, ?_⟩
                unfold Oper.wp
                simp [go_sem, t3', d0, d1, d2]
                exact ⟨_, rfl, .inl rfl, hI, rfl⟩
              · cases ho
                have e1 : a.tmps[67]?.getD undef = .agg #[.int .i64 r.net, .int .i64 r.bits, .int .i64 r.hop] := by simpa [ptPr, Rt.val] using hp 5 67 (by decide) (.inr (by decide)) rfl
                refine ⟨rfl, ?_⟩
                unfold Oper.wp
                simp [go_sem, e1]
                exact ⟨_, rfl, .inr ⟨_, rfl⟩, hI.alloc hI.size _, _, rfl, Boxed.new x _ _⟩
              · cases ho
                obtain ⟨r4, n4⟩ : RRow w2.heap.size x (a.tmps.getD 66 undef) (L.take k) ∧ a.tmps.getD 66 undef ≠ .slice none 0 0 := hp 4 66 (by decide) (.inl rfl) rfl
                obtain ⟨b6, e6, hbx⟩ : ∃ b, a.tmps.getD 68 undef = .slice (some ⟨b, 0, none⟩) 1 1 ∧ Boxed x b #[.int .i64 r.net, .int .i64 r.bits, .int .i64 r.hop] 53 := hp 6 68 (by decide) (.inl rfl) rfl
                refine ⟨rfl, op_app (.tmp 66) (.tmp 68) rfl w2.heap.size _ (L.take k) (some ⟨b6, 0, none⟩) 1 1 [r] rfl rfl e6 r4 (rts_of_box hbx) (by simp) (by rw [hl1]; simp; omega) hI.size fun v' w' hr hb _ hnil => ⟨_, rfl, ?_, hI.trans hb, hr, fun e => n4 (hnil e)⟩⟩
                exact hb
              · cases ho
                exact ⟨rfl, op_move 7 rfl ⟨_, rfl, .inl rfl, hI, t7⟩⟩
              · cases ho
                obtain ⟨r7, n7⟩ : RRow w2.heap.size x (a.tmps.getD 69 undef) (L.take k ++ [r]) ∧ a.tmps.getD 69 undef ≠ .slice none 0 0 := hp 7 69 (by decide) (.inl rfl) rfl
                have e8 : a.tmps.getD 70 undef = .slice (some ⟨g2, 0, none⟩) (len - k) c2 := hp 8 70 (by decide) (.inr (by decide)) rfl
                refine ⟨rfl, op_app (.tmp 69) (.tmp 70) rfl w2.heap.size _ (L.take k ++ [r]) (some ⟨g2, 0, none⟩) (len - k) c2 (L.drop k) Hm.out rfl e8 r7 (H2.out.2.2.1.below hI) (by simp) (by rw [List.length_append, hl1, Hm.out]; simp; omega) hI.size fun v' w' hr hb _ hnil => ⟨_, rfl, ?_, hI.trans hb, hr, fun e => n7 (hnil e)⟩⟩
                exact hb
              · cases ho
                have r9 : RRow w2.heap.size x (a.tmps.getD 71 undef) (L.take k ++ [r] ++ L.drop k) ∧ a.tmps.getD 71 undef ≠ .slice none 0 0 := hp 9 71 (by decide) (.inr (by decide)) rfl
                refine ⟨rfl, ?_⟩
                unfold Oper.wp
                simp [execOp, Act.eval, Oper.upon]
                exact ⟨_, rfl, .inl rfl, hI, (show RRow w2.heap.size x _ (L.take k ++ [r] ++ L.drop k) ∧ _ ≠ Value.slice none 0 0 from by simpa using r9)⟩
            case last =>
              intro a x hkp hI hp
              obtain ⟨r10, n10⟩ : RRow w2.heap.size x (a.tmps.getD 4 undef) (L.take k ++ [r] ++ L.drop k) ∧ a.tmps.getD 4 undef ≠ .slice none 0 0 := hp 10 4 (by decide) rfl
              have hdf : a.defers = [] := hkp.defers
              have HE : Hid (RRow base x (a.tmps.getD 4 undef) (L.take k ++ [r] ++ L.drop k) ∧ a.tmps.getD 4 undef ≠ .slice none 0 0 ∧ Below base w x) := ⟨r10.mono H2.out.2.2.2.2, n10, H2.out.2.2.2.1.trans (hI.mono H2.out.2.2.2.2)⟩
              clear hp hkp r10 n10 hI
              show Exit.then _ _ .normal a _
              simp only [Exit.then]
              refine hK1 _ _ ?_
              go_wp2
              exact bodyPost_ret (results_tmp rfl _ _ _) hdf ⟨⟨_, rfl, HE.out.1, HE.out.2.1⟩, HE.out.2.2⟩
        · have hh := insN_lt (l := L) (r := r) (k := k) (by rw [HK.out]; omega)
          have hz := lt_true hh
          clear hh
          generalize rtAt L k = y at g0' g1' hz
          have g0 := g0'
          have g1 := g1'
          clear g0' g1'
          by_cases hz1 : y.net < r.net
          · have hd1 : decide (y.net < r.net) = true := by simp; omega
            clear hz hz1
            go_wp2
            refine region_below wr.heap.size (by kernel_rfl) (by kernel_rfl) ?_
            repeat (go_big_quiet_step (fail))
            refine wpQuiet_nil ?_
            intro wq hx
            have hq := BelW.out hx
            have HB2 : Hid (Below W0.heap.size W0 wq) := HB.out.trans (hq.mono HB.out.size)
            clear hx hq f0 f1 g0 g1
            go_wp2
            go_roundw
            case rel => exact ⟨k + 1, by omega, by go_num, HB2⟩
            case measure => simp [intOf]; omega
          · have hz2 : y.net = r.net := by omega
            have hd1 : decide (y.net < r.net) = false := by simp; omega
            have hd3 : decide (y.bits < r.bits) = true := by simp; omega
            have hd2 : (y.net == r.net) = true := by rw [beq_iff_eq]; exact hz2
            clear hz hz1 hz2
            go_wp2
            refine region_below wr.heap.size (by kernel_rfl) (by kernel_rfl) ?_
            repeat (go_big_quiet_step (fail))
            refine wpQuiet_nil ?_
            intro wq hx
            have hq := BelW.out hx
            have HB2 : Hid (Below W0.heap.size W0 wq) := HB.out.trans (hq.mono HB.out.size)
            clear hx hq f0 f1 g0 g1
            go_wp2
            go_roundw
            case rel => exact ⟨k + 1, by omega, by go_num, HB2⟩
            case measure => simp [intOf]; omega
      · have hkl' : decide ((k : Int) < (len : Int)) = false := by simp; omega
        obtain rfl : K = k := by omega
        have g0 : True := trivial
        have g1 : True := trivial
        go_wp2
        refine region_below wr.heap.size (by kernel_rfl) (by kernel_rfl) ?_
        repeat (go_big_quiet_step (fail))
        refine wpQuiet_nil ?_
        intro wq hx
        have hq := BelW.out hx
        have HB2 : Hid (Below W0.heap.size W0 wq) := HB.out.trans (hq.mono HB.out.size)
        clear hx hq f0 f1 g0 g1
        by_cases hck : cap = K
        · obtain rfl : K = cap := hck.symm
          clear hck
          have hdr : L.drop K = [] := List.drop_eq_nil_of_le (by rw [Hlen.out]; omega)
          have Hm : Hid ((L.drop K).length = 0) := by show (L.drop K).length = 0; rw [hdr]; rfl
          obtain ⟨w2, hw2⟩ : ∃ w2, w2 = wq.alloc (.cells #[] 53) := ⟨_, rfl⟩
          obtain ⟨g2, hg2⟩ : ∃ g2, g2 = wq.heap.size := ⟨_, rfl⟩
          have B1 : Below wq.heap.size wq w2 := by rw [hw2]; exact (Below.refl _ wq).alloc (Nat.le_refl _) _
          have B2 : Below W0.heap.size W0 w2 := HB2.out.trans (B1.mono HB2.out.size)
          have hbs : base ≤ W0.heap.size := by have := HW.out.2.2.1.size; omega
          have hr2 : RtsAt w2 (some ⟨g2, 0, none⟩) (L.drop K) := by rw [hdr]; exact RtsAt.nil _ _
          have H2 : Hid (RtsAt w2 (some ⟨g, 0, none⟩) L ∧ Boxed w2 w.heap.size #[.int .i64 r.net, .int .i64 r.bits, .int .i64 r.hop] 53 ∧ RtsAt w2 (some ⟨g2, 0, none⟩) (L.drop K) ∧ Below base w w2 ∧ base ≤ w2.heap.size) :=
            ⟨HW.out.2.1.below B2, HW.out.2.2.2.1.below HW.out.2.2.2.1.under B2, hr2, HW.out.2.2.1.trans (B2.mono hbs), Nat.le_trans hbs B2.size⟩
          have Hw2 : Hid _ := hw2
          have Hg2 : Hid _ := hg2
          clear B1 B2 hbs hr2 HB2 hw2 hg2 hdr
          go_wp2_with fail
          rw [← Hw2.out, ← Hg2.out]
          rename_i K1 hK1
          have hl1 : (L.take K).length = K := by rw [List.length_take, Hlen.out]; omega
          have hkc : K ≤ K := by omega
          refine region_all (by kernel_rfl) (by kernel_rfl) (by kernel_rfl) ptUse (fun x => Below w2.heap.size w2 x) (ptR w2.heap.size) (ptPr w2.heap.size w2 (.slice (some ⟨g, 0, none⟩) len K) (.slice (some ⟨g2, 0, none⟩) 0 0) r L K) ?hR ?h0 ?step ?last
          case hR =>
            intro i j x x' v _ hjs hij hu h1 h2 hp hr
            have same : ∀ l, i ≠ 4 → i ≠ 7 → i ≠ 9 → RRow w2.heap.size x v l → RRow w2.heap.size x' v l := by
              intro l h4 h7 h9 hrow
              unfold ptR at hr
              rw [if_neg h4, if_neg (by omega)] at hr
              rcases hr with rfl | ⟨o, rfl⟩
              · exact hrow
              · exact hrow.alloc _
            by_cases hj0 : j = 0
            · subst hj0
              by_cases hi4 : i = 4
              · subst hi4; exact absurd rfl hu
              by_cases hi7 : i = 7
              · subst hi7; exact no_false h2 (by kernel_rfl)
              by_cases hi9 : i = 9
              · subst hi9; exact no_false h2 (by kernel_rfl)
              exact ⟨same _ hi4 hi7 hi9 hp.1, hp.2⟩
            by_cases hj4 : j = 4
            · subst hj4
              by_cases hi7 : i = 7
              · subst hi7; exact absurd rfl hu
              by_cases hi9 : i = 9
              · subst hi9; exact no_false h2 (by kernel_rfl)
              exact ⟨same _ (by omega) hi7 hi9 hp.1, hp.2⟩
            by_cases hj6 : j = 6
            · subst hj6
              obtain ⟨b, e, hbx⟩ : ∃ b, v = .slice (some ⟨b, 0, none⟩) 1 1 ∧ Boxed x b #[.int .i64 r.net, .int .i64 r.bits, .int .i64 r.hop] 53 := hp
              by_cases hi7 : i = 7
              · subst hi7; exact absurd rfl hu
              by_cases hi9 : i = 9
              · subst hi9; exact no_false h2 (by kernel_rfl)
              by_cases hi4 : i = 4
              · subst hi4
                refine ⟨b, e, ?_⟩
                have hh : ∀ k, k < x.heap.size → x.heap[k]? ≠ some (.cells #[] 53) → x'.heap[k]? = x.heap[k]? := hr
                unfold Boxed at hbx ⊢
                rw [hh b (heapLt hbx) (by rw [hbx]; simp)]
                exact hbx
              unfold ptR at hr
              rw [if_neg hi4, if_neg (by omega)] at hr
              rcases hr with rfl | ⟨o, rfl⟩
              · exact ⟨b, e, hbx⟩
              · exact ⟨b, e, hbx.more _⟩
            by_cases hj7 : j = 7
            · subst hj7
              by_cases hi4 : i = 4
              · subst hi4; exact no_false h1 (by kernel_rfl)
              by_cases hi9 : i = 9
              · subst hi9; exact absurd rfl hu
              exact ⟨same _ hi4 (by omega) hi9 hp.1, hp.2⟩
            by_cases hj9 : j = 9
            · subst hj9
              by_cases hi4 : i = 4
              · subst hi4; exact no_false h1 (by kernel_rfl)
              by_cases hi7 : i = 7
              · subst hi7; exact no_false h1 (by kernel_rfl)
              exact ⟨same _ hi4 hi7 (by omega) hp.1, hp.2⟩
            by_cases hj10 : j = 10
            · subst hj10
              by_cases hi4 : i = 4
              · subst hi4; exact no_false h1 (by kernel_rfl)
              by_cases hi7 : i = 7
              · subst hi7; exact no_false h1 (by kernel_rfl)
              by_cases hi9 : i = 9
              · subst hi9; exact no_false h1 (by kernel_rfl)
              exact ⟨same _ hi4 hi7 hi9 hp.1, hp.2⟩
            have hj11 : j < 11 := hjs
            have hjc : j = 1 ∨ j = 2 ∨ j = 3 ∨ j = 5 ∨ j = 8 := by omega
            rcases hjc with rfl | rfl | rfl | rfl | rfl
            · exact hp
            · exact hp
            · exact hp
            · exact hp
            · exact hp
          case h0 => exact (Below.refl _ _).drew
          case step =>
            intro i o hi ho a x hkp hI hp
            have t0 : a.tmps.getD 0 undef = .slice (some ⟨g, 0, none⟩) len K := hkp.slot 0 (by kernel_rfl)
            have t6 : a.tmps.getD 6 undef = .int .i64 (K : Int) := hkp.slot 6 (by kernel_rfl)
            have t7 : a.tmps.getD 7 undef = .slice (some ⟨g2, 0, none⟩) 0 0 := hkp.slot 7 (by kernel_rfl)
            have t3 : a.tmps.getD 3 undef = .pointer (some ⟨w.heap.size, 0, none⟩) := hkp.slot 3 (by kernel_rfl)
            have t3' : a.tmps[3]?.getD undef = .pointer (some ⟨w.heap.size, 0, none⟩) := by simpa using t3
            have hX := H2.out.2.1.below H2.out.2.1.under hI
            have d0 : x.cell? ⟨w.heap.size, 0, none⟩ = some (.int .i64 r.net) := hX.cell 0 rfl
            have d1 : x.cell? ⟨w.heap.size, 1, none⟩ = some (.int .i64 r.bits) := hX.cell 1 rfl
            have d2 : x.cell? ⟨w.heap.size, 2, none⟩ = some (.int .i64 r.hop) := hX.cell 2 rfl
            have hcases : i = 0 ∨ i = 1 ∨ i = 2 ∨ i = 3 ∨ i = 4 ∨ i = 5 ∨ i = 6 ∨ i = 7 ∨ i = 8 ∨ i = 9 ∨ i = 10 := by
              have : i < 11 := hi
              omega
            rcases hcases with rfl | rfl | rfl | rfl | rfl | rfl | rfl | rfl | rfl | rfl | rfl
            · cases ho
              refine ⟨rfl, ?_⟩
              unfold Oper.wp
              simp [go_sem]
              exact ⟨_, rfl, .inr ⟨_, rfl⟩, hI.alloc hI.size _, row_built x _ hI.size, _, rfl⟩
            · cases ho
              exact ⟨rfl, op_move 0 rfl ⟨_, rfl, .inl rfl, hI, t0⟩⟩
            · cases ho
              exact ⟨rfl, op_move 6 rfl ⟨_, rfl, .inl rfl, hI, t6⟩⟩
            · cases ho
              have e1 : a.tmps[63]?.getD undef = .slice (some ⟨g, 0, none⟩) len K := by simpa [ptPr] using hp 1 63 (by decide) (.inr (by decide)) rfl
              have e2 : a.tmps[64]?.getD undef = .int .i64 (K : Int) := by simpa [ptPr] using hp 2 64 (by decide) (.inr (by decide)) rfl
              refine ⟨rfl, ?_⟩
              unfold Oper.wp
              simp [go_sem, e1, e2]
              exact ⟨_, rfl, .inl rfl, hI, some ⟨g, 0, none⟩, K, rfl, by simp, rts_take H2.out.1 K⟩
            · cases ho
              obtain ⟨r0, g0, eg0⟩ : RRow w2.heap.size x (a.tmps.getD 62 undef) [] ∧ ∃ g0, a.tmps.getD 62 undef = .slice (some ⟨g0, 0, none⟩) 0 0 := hp 0 62 (by decide) (.inl rfl) rfl
              obtain ⟨sa, sc, es, hne, er⟩ : ∃ sa sc, a.tmps.getD 65 undef = .slice sa K sc ∧ sa ≠ none ∧ RtsAt w2 sa (L.take K) := hp 3 65 (by decide) (.inr (by decide)) rfl
              refine ⟨rfl, op_app (.tmp 62) (.tmp 65) rfl w2.heap.size _ [] sa K sc (L.take K) hl1 rfl es r0 (er.below hI) (fun e => absurd e hne) (by rw [hl1]; simp; omega) hI.size fun v' w' hr hb hgr hnil => ⟨_, rfl, ?_, hI.trans hb, hr, ?_⟩⟩
              · show ∀ q, q < x.heap.size → x.heap[q]? ≠ some (.cells #[] 53) → w'.heap[q]? = x.heap[q]?
                intro q hq hne2
                refine hgr.block q hq fun e => ?_
                rw [show a.eval (.tmp 62) = a.tmps.getD 62 undef from rfl, eg0] at e
                obtain rfl : q = g0 := by simpa [Value.ownBlock] using e
                rw [eg0] at r0
                exact hne2 (row_empty r0)
              · intro e
                have := hnil e
                rw [show a.eval (.tmp 62) = a.tmps.getD 62 undef from rfl, eg0] at this
                cases this
            · cases ho
              refine ⟨rfl, ?_⟩
              unfold Oper.wp
              simp [go_sem, t3', d0, d1, d2]
              exact ⟨_, rfl, .inl rfl, hI, rfl⟩
            · cases ho
              have e1 : a.tmps[67]?.getD undef = .agg #[.int .i64 r.net, .int .i64 r.bits, .int .i64 r.hop] := by simpa [ptPr, Rt.val] using hp 5 67 (by decide) (.inr (by decide)) rfl
              refine ⟨rfl, ?_⟩
              unfold Oper.wp
              simp [go_sem, e1]
              exact ⟨_, rfl, .inr ⟨_, rfl⟩, hI.alloc hI.size _, _, rfl, Boxed.new x _ _⟩
            · cases ho
              obtain ⟨r4, n4⟩ : RRow w2.heap.size x (a.tmps.getD 66 undef) (L.take K) ∧ a.tmps.getD 66 undef ≠ .slice none 0 0 := hp 4 66 (by decide) (.inl rfl) rfl
              obtain ⟨b6, e6, hbx⟩ : ∃ b, a.tmps.getD 68 undef = .slice (some ⟨b, 0, none⟩) 1 1 ∧ Boxed x b #[.int .i64 r.net, .int .i64 r.bits, .int .i64 r.hop] 53 := hp 6 68 (by decide) (.inl rfl) rfl
              refine ⟨rfl, op_app (.tmp 66) (.tmp 68) rfl w2.heap.size _ (L.take K) (some ⟨b6, 0, none⟩) 1 1 [r] rfl rfl e6 r4 (rts_of_box hbx) (by simp) (by rw [hl1]; simp; omega) hI.size fun v' w' hr hb _ hnil => ⟨_, rfl, ?_, hI.trans hb, hr, fun e => n4 (hnil e)⟩⟩
              exact hb
            · cases ho
              exact ⟨rfl, op_move 7 rfl ⟨_, rfl, .inl rfl, hI, t7⟩⟩
            · cases ho
              obtain ⟨r7, n7⟩ : RRow w2.heap.size x (a.tmps.getD 69 undef) (L.take K ++ [r]) ∧ a.tmps.getD 69 undef ≠ .slice none 0 0 := hp 7 69 (by decide) (.inl rfl) rfl
              have e8 : a.tmps.getD 70 undef = .slice (some ⟨g2, 0, none⟩) 0 0 := hp 8 70 (by decide) (.inr (by decide)) rfl
              refine ⟨rfl, op_app (.tmp 69) (.tmp 70) rfl w2.heap.size _ (L.take K ++ [r]) (some ⟨g2, 0, none⟩) 0 0 (L.drop K) Hm.out rfl e8 r7 (H2.out.2.2.1.below hI) (by simp) (by rw [List.length_append, hl1, Hm.out]; simp; omega) hI.size fun v' w' hr hb _ hnil => ⟨_, rfl, ?_, hI.trans hb, hr, fun e => n7 (hnil e)⟩⟩
              exact hb
            · cases ho
              have r9 : RRow w2.heap.size x (a.tmps.getD 71 undef) (L.take K ++ [r] ++ L.drop K) ∧ a.tmps.getD 71 undef ≠ .slice none 0 0 := hp 9 71 (by decide) (.inr (by decide)) rfl
              refine ⟨rfl, ?_⟩
              unfold Oper.wp
              simp [execOp, Act.eval, Oper.upon]
              exact ⟨_, rfl, .inl rfl, hI, (show RRow w2.heap.size x _ (L.take K ++ [r] ++ L.drop K) ∧ _ ≠ Value.slice none 0 0 from by simpa using r9)⟩
          case last =>
            intro a x hkp hI hp
            obtain ⟨r10, n10⟩ : RRow w2.heap.size x (a.tmps.getD 4 undef) (L.take K ++ [r] ++ L.drop K) ∧ a.tmps.getD 4 undef ≠ .slice none 0 0 := hp 10 4 (by decide) rfl
            have hdf : a.defers = [] := hkp.defers
            have HE : Hid (RRow base x (a.tmps.getD 4 undef) (L.take K ++ [r] ++ L.drop K) ∧ a.tmps.getD 4 undef ≠ .slice none 0 0 ∧ Below base w x) := ⟨r10.mono H2.out.2.2.2.2, n10, H2.out.2.2.2.1.trans (hI.mono H2.out.2.2.2.2)⟩
            clear hp hkp r10 n10 hI
            show Exit.then _ _ .normal a _
            simp only [Exit.then]
            refine hK1 _ _ ?_
            go_wp2
            exact bodyPost_ret (results_tmp rfl _ _ _) hdf ⟨⟨_, rfl, HE.out.1, HE.out.2.1⟩, HE.out.2.2⟩
        · have Hm : Hid ((L.drop K).length = len - K) := by show (L.drop K).length = len - K; rw [List.length_drop, Hlen.out]
          have HM : Hid (RtsAt wq (some ⟨g, K * 3, none⟩) (L.drop K)) := by
            have := rts_drop (HW.out.2.1.below HB2.out) K
            show RtsAt _ _ _
            simpa using this
          go_wp2_with (at_builtin; refine row_app rfl (.tmp 57) (.tmp 60) rfl wq.heap.size _ [] _ _ _ (L.drop K) Hm.out rfl rfl (row_built wq _ (Nat.le_refl _)) (HM.out.alloc _) (by simp) (by rw [Hm.out]; simp; omega) (by simp) ?_)
          intro v2 w2 r2 b2 _ n2
          have B1 : Below wq.heap.size wq w2 := ((Below.refl _ wq).alloc (Nat.le_refl _) _).trans b2
          have B2 : Below W0.heap.size W0 w2 := HB2.out.trans (B1.mono HB2.out.size)
          have hbs : base ≤ W0.heap.size := by have := HW.out.2.2.1.size; omega
          obtain ⟨g2, c2, hv2⟩ := r2.some (fun e => by have := n2 e; cases this)
          have hr2 : RtsAt w2 (some ⟨g2, 0, none⟩) (L.drop K) := by rw [hv2] at r2; exact r2.at
          have hv2' : v2 = .slice (some ⟨g2, 0, none⟩) (len - K) c2 := by rw [hv2]; show Value.slice _ (L.drop K).length _ = _; rw [Hm.out]
          have H2 : Hid (RtsAt w2 (some ⟨g, 0, none⟩) L ∧ Boxed w2 w.heap.size #[.int .i64 r.net, .int .i64 r.bits, .int .i64 r.hop] 53 ∧ RtsAt w2 (some ⟨g2, 0, none⟩) (L.drop K) ∧ Below base w w2 ∧ base ≤ w2.heap.size) :=
            ⟨HW.out.2.1.below B2, HW.out.2.2.2.1.below HW.out.2.2.2.1.under B2, hr2, HW.out.2.2.1.trans (B2.mono hbs), Nat.le_trans hbs B2.size⟩
          subst hv2'
          clear r2 b2 n2 B1 B2 hbs hv2 hr2 HM HB2
          go_wp2_with fail
          rename_i K1 hK1
          have hl1 : (L.take K).length = K := by rw [List.length_take, Hlen.out]; omega
          have hkc : K ≤ cap := by omega
          refine region_all (by kernel_rfl) (by kernel_rfl) (by kernel_rfl) ptUse (fun x => Below w2.heap.size w2 x) (ptR w2.heap.size) (ptPr w2.heap.size w2 (.slice (some ⟨g, 0, none⟩) len cap) (.slice (some ⟨g2, 0, none⟩) (len - K) c2) r L K) ?hR ?h0 ?step ?last
          case hR =>
            intro i j x x' v _ hjs hij hu h1 h2 hp hr
            have same : ∀ l, i ≠ 4 → i ≠ 7 → i ≠ 9 → RRow w2.heap.size x v l → RRow w2.heap.size x' v l := by
              intro l h4 h7 h9 hrow
              unfold ptR at hr
              rw [if_neg h4, if_neg (by omega)] at hr
              rcases hr with rfl | ⟨o, rfl⟩
              · exact hrow
              · exact hrow.alloc _
            by_cases hj0 : j = 0
            · subst hj0
              by_cases hi4 : i = 4
              · subst hi4; exact absurd rfl hu
              by_cases hi7 : i = 7
              · subst hi7; exact no_false h2 (by kernel_rfl)
              by_cases hi9 : i = 9
              · subst hi9; exact no_false h2 (by kernel_rfl)
              exact ⟨same _ hi4 hi7 hi9 hp.1, hp.2⟩
            by_cases hj4 : j = 4
            · subst hj4
              by_cases hi7 : i = 7
              · subst hi7; exact absurd rfl hu
              by_cases hi9 : i = 9
              · subst hi9; exact no_false h2 (by kernel_rfl)
              exact ⟨same _ (by omega) hi7 hi9 hp.1, hp.2⟩
            by_cases hj6 : j = 6
            · subst hj6
              obtain ⟨b, e, hbx⟩ : ∃ b, v = .slice (some ⟨b, 0, none⟩) 1 1 ∧ Boxed x b #[.int .i64 r.net, .int .i64 r.bits, .int .i64 r.hop] 53 := hp
              by_cases hi7 : i = 7
              · subst hi7; exact absurd rfl hu
              by_cases hi9 : i = 9
              · subst hi9; exact no_false h2 (by kernel_rfl)
              by_cases hi4 : i = 4
              · subst hi4
                refine ⟨b, e, ?_⟩
                have hh : ∀ k, k < x.heap.size → x.heap[k]? ≠ some (.cells #[] 53) → x'.heap[k]? = x.heap[k]? := hr
                unfold Boxed at hbx ⊢
                rw [hh b (heapLt hbx) (by rw [hbx]; simp)]
                exact hbx
              unfold ptR at hr
              rw [if_neg hi4, if_neg (by omega)] at hr
              rcases hr with rfl | ⟨o, rfl⟩
              · exact ⟨b, e, hbx⟩
              · exact ⟨b, e, hbx.more _⟩
            by_cases hj7 : j = 7
            · subst hj7
              by_cases hi4 : i = 4
              · subst hi4; exact no_false h1 (by kernel_rfl)
              by_cases hi9 : i = 9
              · subst hi9; exact absurd rfl hu
              exact ⟨same _ hi4 (by omega) hi9 hp.1, hp.2⟩
            by_cases hj9 : j = 9
            · subst hj9
              by_cases hi4 : i = 4
              · subst hi4; exact no_false h1 (by kernel_rfl)
              by_cases hi7 : i = 7
              · subst hi7; exact no_false h1 (by kernel_rfl)
              exact ⟨same _ hi4 hi7 (by omega) hp.1, hp.2⟩
            by_cases hj10 : j = 10
            · subst hj10
              by_cases hi4 : i = 4
              · subst hi4; exact no_false h1 (by kernel_rfl)
              by_cases hi7 : i = 7
              · subst hi7; exact no_false h1 (by kernel_rfl)
              by_cases hi9 : i = 9
              · subst hi9; exact no_false h1 (by kernel_rfl)
              exact ⟨same _ hi4 hi7 hi9 hp.1, hp.2⟩
            have hj11 : j < 11 := hjs
            have hjc : j = 1 ∨ j = 2 ∨ j = 3 ∨ j = 5 ∨ j = 8 := by omega
            rcases hjc with rfl | rfl | rfl | rfl | rfl
            · exact hp
            · exact hp
            · exact hp
            · exact hp
            · exact hp
          case h0 => exact (Below.refl _ _).drew
          case step =>
            intro i o hi ho a x hkp hI hp
            have t0 : a.tmps.getD 0 undef = .slice (some ⟨g, 0, none⟩) len cap := hkp.slot 0 (by kernel_rfl)
            have t6 : a.tmps.getD 6 undef = .int .i64 (K : Int) := hkp.slot 6 (by kernel_rfl)
            have t7 : a.tmps.getD 7 undef = .slice (some ⟨g2, 0, none⟩) (len - K) c2 := hkp.slot 7 (by kernel_rfl)
            have t3 : a.tmps.getD 3 undef = .pointer (some ⟨w.heap.size, 0, none⟩) := hkp.slot 3 (by kernel_rfl)
            have t3' : a.tmps[3]?.getD undef = .pointer (some ⟨w.heap.size, 0, none⟩) := by simpa using t3
            have hX := H2.out.2.1.below H2.out.2.1.under hI
            have d0 : x.cell? ⟨w.heap.size, 0, none⟩ = some (.int .i64 r.net) := hX.cell 0 rfl
            have d1 : x.cell? ⟨w.heap.size, 1, none⟩ = some (.int .i64 r.bits) := hX.cell 1 rfl
            have d2 : x.cell? ⟨w.heap.size, 2, none⟩ = some (.int .i64 r.hop) := hX.cell 2 rfl
            have hcases : i = 0 ∨ i = 1 ∨ i = 2 ∨ i = 3 ∨ i = 4 ∨ i = 5 ∨ i = 6 ∨ i = 7 ∨ i = 8 ∨ i = 9 ∨ i = 10 := by
              have : i < 11 := hi
              omega
            rcases hcases with rfl | rfl | rfl | rfl | rfl | rfl | rfl | rfl | rfl | rfl | rfl
            · cases ho
              refine ⟨rfl, ?_⟩
              unfold Oper.wp
              simp [go_sem]
              exact ⟨_, rfl, .inr ⟨_, rfl⟩, hI.alloc hI.size _, row_built x _ hI.size, _, rfl⟩
            · cases ho
              exact ⟨rfl, op_move 0 rfl ⟨_, rfl, .inl rfl, hI, t0⟩⟩
            · cases ho
              exact ⟨rfl, op_move 6 rfl ⟨_, rfl, .inl rfl, hI, t6⟩⟩
            · cases ho
              have e1 : a.tmps[63]?.getD undef = .slice (some ⟨g, 0, none⟩) len cap := by simpa [ptPr] using hp 1 63 (by decide) (.inr (by decide)) rfl
              have e2 : a.tmps[64]?.getD undef = .int .i64 (K : Int) := by simpa [ptPr] using hp 2 64 (by decide) (.inr (by decide)) rfl
              refine ⟨rfl, ?_⟩
              unfold Oper.wp
              simp [go_sem, e1, e2, hkc]
              exact ⟨_, rfl, .inl rfl, hI, some ⟨g, 0, none⟩, cap, rfl, by simp, rts_take H2.out.1 K⟩
            · cases ho
              obtain ⟨r0, g0, eg0⟩ : RRow w2.heap.size x (a.tmps.getD 62 undef) [] ∧ ∃ g0, a.tmps.getD 62 undef = .slice (some ⟨g0, 0, none⟩) 0 0 := hp 0 62 (by decide) (.inl rfl) rfl
              obtain ⟨sa, sc, es, hne, er⟩ : ∃ sa sc, a.tmps.getD 65 undef = .slice sa K sc ∧ sa ≠ none ∧ RtsAt w2 sa (L.take K) := hp 3 65 (by decide) (.inr (by decide)) rfl
              refine ⟨rfl, op_app (.tmp 62) (.tmp 65) rfl w2.heap.size _ [] sa K sc (L.take K) hl1 rfl es r0 (er.below hI) (fun e => absurd e hne) (by rw [hl1]; simp; omega) hI.size fun v' w' hr hb hgr hnil => ⟨_, rfl, ?_, hI.trans hb, hr, ?_⟩⟩
              · show ∀ q, q < x.heap.size → x.heap[q]? ≠ some (.cells #[] 53) → w'.heap[q]? = x.heap[q]?
                intro q hq hne2
                refine hgr.block q hq fun e => ?_
                rw [show a.eval (.tmp 62) = a.tmps.getD 62 undef from rfl, eg0] at e
                obtain rfl : q = g0 := by simpa [Value.ownBlock] using e
                rw [eg0] at r0
                exact hne2 (row_empty r0)
              · intro e
                have := hnil e
                rw [show a.eval (.tmp 62) = a.tmps.getD 62 undef from rfl, eg0] at this
                cases this
            · cases ho
              refine ⟨rfl, ?_⟩
              unfold Oper.wp
              simp [go_sem, t3', d0, d1, d2]
              exact ⟨_, rfl, .inl rfl, hI, rfl⟩
            · cases ho
              have e1 : a.tmps[67]?.getD undef = .agg #[.int .i64 r.net, .int .i64 r.bits, .int .i64 r.hop] := by simpa [ptPr, Rt.val] using hp 5 67 (by decide) (.inr (by decide)) rfl
              refine ⟨rfl, ?_⟩
              unfold Oper.wp
              simp [go_sem, e1]
              exact ⟨_, rfl, .inr ⟨_, rfl⟩, hI.alloc hI.size _, _, rfl, Boxed.new x _ _⟩
            · cases ho
              obtain ⟨r4, n4⟩ : RRow w2.heap.size x (a.tmps.getD 66 undef) (L.take K) ∧ a.tmps.getD 66 undef ≠ .slice none 0 0 := hp 4 66 (by decide) (.inl rfl) rfl
              obtain ⟨b6, e6, hbx⟩ : ∃ b, a.tmps.getD 68 undef = .slice (some ⟨b, 0, none⟩) 1 1 ∧ Boxed x b #[.int .i64 r.net, .int .i64 r.bits, .int .i64 r.hop] 53 := hp 6 68 (by decide) (.inl rfl) rfl
              refine ⟨rfl, op_app (.tmp 66) (.tmp 68) rfl w2.heap.size _ (L.take K) (some ⟨b6, 0, none⟩) 1 1 [r] rfl rfl e6 r4 (rts_of_box hbx) (by simp) (by rw [hl1]; simp; omega) hI.size fun v' w' hr hb _ hnil => ⟨_, rfl, ?_, hI.trans hb, hr, fun e => n4 (hnil e)⟩⟩
              exact hb
            · cases ho
              exact ⟨rfl, op_move 7 rfl ⟨_, rfl, .inl rfl, hI, t7⟩⟩
            · cases ho
              obtain ⟨r7, n7⟩ : RRow w2.heap.size x (a.tmps.getD 69 undef) (L.take K ++ [r]) ∧ a.tmps.getD 69 undef ≠ .slice none 0 0 := hp 7 69 (by decide) (.inl rfl) rfl
              have e8 : a.tmps.getD 70 undef = .slice (some ⟨g2, 0, none⟩) (len - K) c2 := hp 8 70 (by decide) (.inr (by decide)) rfl
              refine ⟨rfl, op_app (.tmp 69) (.tmp 70) rfl w2.heap.size _ (L.take K ++ [r]) (some ⟨g2, 0, none⟩) (len - K) c2 (L.drop K) Hm.out rfl e8 r7 (H2.out.2.2.1.below hI) (by simp) (by rw [List.length_append, hl1, Hm.out]; simp; omega) hI.size fun v' w' hr hb _ hnil => ⟨_, rfl, ?_, hI.trans hb, hr, fun e => n7 (hnil e)⟩⟩
              exact hb
            · cases ho
              have r9 : RRow w2.heap.size x (a.tmps.getD 71 undef) (L.take K ++ [r] ++ L.drop K) ∧ a.tmps.getD 71 undef ≠ .slice none 0 0 := hp 9 71 (by decide) (.inr (by decide)) rfl
              refine ⟨rfl, ?_⟩
              unfold Oper.wp
              simp [execOp, Act.eval, Oper.upon]
              exact ⟨_, rfl, .inl rfl, hI, (show RRow w2.heap.size x _ (L.take K ++ [r] ++ L.drop K) ∧ _ ≠ Value.slice none 0 0 from by simpa using r9)⟩
          case last =>
            intro a x hkp hI hp
            obtain ⟨r10, n10⟩ : RRow w2.heap.size x (a.tmps.getD 4 undef) (L.take K ++ [r] ++ L.drop K) ∧ a.tmps.getD 4 undef ≠ .slice none 0 0 := hp 10 4 (by decide) rfl
            have hdf : a.defers = [] := hkp.defers
            have HE : Hid (RRow base x (a.tmps.getD 4 undef) (L.take K ++ [r] ++ L.drop K) ∧ a.tmps.getD 4 undef ≠ .slice none 0 0 ∧ Below base w x) := ⟨r10.mono H2.out.2.2.2.2, n10, H2.out.2.2.2.1.trans (hI.mono H2.out.2.2.2.2)⟩
            clear hp hkp r10 n10 hI
            show Exit.then _ _ .normal a _
            simp only [Exit.then]
            refine hK1 _ _ ?_
            go_wp2
            exact bodyPost_ret (results_tmp rfl _ _ _) hdf ⟨⟨_, rfl, HE.out.1, HE.out.2.1⟩, HE.out.2.2⟩

end Go.Proofs.Ytilnjmpnhadidaa
