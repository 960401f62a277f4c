/-
  The walks of the model's Paired. By the verifier.
-/
import Derived.Test.YtilnjmpnhadidaaCpSkip
import Derived.Test.YtilnjmpnhadidaaRtL4Hop
import Derived.Test.YtilnjmpnhadidaaRtOkS
import Derived.Test.YtilnjmpnhadidaaQuiet
import Derived.BigQuiet
namespace Go.Proofs.Ytilnjmpnhadidaa
open Go.RowKit

set_option maxHeartbeats 3200000 in
set_option maxRecDepth 100000 in
theorem specPairL (a : Option Addr) (cap : Nat) (l : List Rt) (w : World) (hT : l.length ≤ 64) (hf : Hid (Fine l)) (hn : a = none → cap = 0) (h : Hid (RtsAt w a l)) :
    Calls Try.prog 40 #[.slice a l.length cap] w fun e w' => (∃ v', e = .returned v' ∧ RRow w.heap.size w' v' (pairL l) ∧ v' ≠ .slice none 0 0) ∧ Below w.heap.size w w' := by
  have A := fun net bits w h => specAt a cap l net bits w (by omega) h
  obtain ⟨N, hN⟩ : ∃ N, pairN l = N := ⟨_, rfl⟩
  have HN : Hid (pairN l = N) := hN
  obtain ⟨len, hlen⟩ : ∃ n, l.length = n := ⟨_, rfl⟩
  have Hlen : Hid (l.length = len) := hlen
  have hNl : N ≤ len := by rw [← hN, ← hlen]; exact List.findIdx_le_length
  rw [hlen] at hT ⊢
  simp only [hlen] at A
  have A' : Hid _ := A
  clear hlen hN A
  go_enter Try.func40, Try.ntmps40
  go_wp2
  go_loopw [3] (fun i wr => ∃ k : Nat, k ≤ N ∧ i = .int .i64 k ∧ Hid (Below w.heap.size w wr)) (fun i _ => len - (intOf i).toNat)
  case atStart => exact ⟨0, Nat.zero_le _, rfl, Below.refl _ _⟩
  case round =>
    obtain ⟨k, hk, rfl, H1⟩ := hrel
    by_cases hkl : k < len
    · have R : RtsAt wr a l := h.out.below H1.out
      obtain ⟨b1, o1, ha1, hb1, -⟩ := R k (by rw [Hlen.out]; exact hkl)
      subst ha1
      obtain ⟨c0, c1, c2⟩ := cells_at R (k := k) (by rw [Hlen.out]; exact hkl)
      have hmem : rtAt l k ∈ l := by rw [rtAt_lt (by rw [Hlen.out]; exact hkl)]; exact List.getElem_mem _
      have hrk : (rtAt l k).ok = true := hf.out.ok _ hmem
      have B1 : Hid (Below w.heap.size w (wr.alloc (.cells #[.int .i64 (rtAt l k).net, .int .i64 (rtAt l k).bits, .int .i64 (rtAt l k).hop] 53)) ∧ RtsAt (wr.alloc (.cells #[.int .i64 (rtAt l k).net, .int .i64 (rtAt l k).bits, .int .i64 (rtAt l k).hop] 53)) (some ⟨b1, o1, none⟩) l) := ⟨H1.out.alloc H1.out.size _, R.alloc _⟩
      obtain ⟨p1, p2, p3, p4⟩ := ok_split hrk
      have hkl' : (k : Int) < (len : Int) := by omega
      by_cases hkN : k = N
      · subst hkN
        have hat := pair_at hf.out (by rw [HN.out, Hlen.out]; omega)
        rw [HN.out] at hat
        obtain ⟨f, hfe, f1, f2, f3, f4, f5, f6⟩ := hat
        rw [hfe] at c0 c1 c2 B1 p1 p2 p3 p4
        clear hmem hrk R hfe f1
        obtain ⟨net, bits, hop⟩ := f
        simp only [] at c0 c1 c2 B1 p1 p2 p3 p4 f2 f3 f4 f5 f6
        obtain ⟨s, hs, hbs⟩ := bits_of (inB_true.2 p1)
        have hps : (2 : Int) ^ (32 - bits).toNat = 2 ^ s := by rw [hbs, pow_of hs]
        rw [hps] at f3 f4 f5 f6
        subst hbs
        have e32 : 32 - (32 - s) = s := by omega
        have q0 := pow_pos' s
        have q1 := pow_le32 hs
        obtain ⟨q, hq⟩ : ∃ q, net / 2 ^ (32 - (32 - s)) = q := ⟨_, rfl⟩
        have hq' : net / 2 ^ s = q := by rw [← hq, e32]
        rw [hq'] at f3
        have hqn : 0 ≤ q := by rw [← hq']; exact Int.ediv_nonneg p2.1 (by omega)
        have ht : q.tmod 2 = q % 2 := Int.tmod_eq_emod_of_nonneg hqn
        obtain ⟨P, hP⟩ : ∃ P : Int, (2 : Int) ^ s = P := ⟨_, rfl⟩
        rw [hP] at q0 q1 f4 f5 f6
        have hw1 : wrap64 ((2 : Int) ^ (32 - (32 - s))) = P := by rw [e32, hP]; unfold wrap64; omega
        have g2 : q.tmod 2 = 0 := by omega
        have p20 := p2.1
        have p21 := p2.2
        have A2 := A'.out (net + P) (32 - (s : Int))
        obtain ⟨M, hM⟩ : ∃ M, atN l (net + P) (32 - (s : Int)) = M := ⟨_, rfl⟩
        rw [hM] at A2 f4 f5 f6
        rw [Hlen.out] at f4
        have hs0 : ¬ 32 - (s : Int) = 0 := f2
        rw [if_pos f4] at A2
        obtain ⟨d0, d1, d2⟩ := cells_at B1.out.2 (k := M) (by rw [Hlen.out]; exact f4)
        rw [f5] at d2
        have HF : Hid (putL (skipK l k M len) ⟨net, 32 - (s : Int) - 1, hop⟩ = pairL l) := by rw [← Hlen.out]; exact f6
        have g7 : (M : Int) < (len : Int) := by omega
        clear d0 d1 p1 p2 p3 p4 hps e32 hq' hqn ht hM hP f2 f3 f5 f6
        go_wp2_with fail
        refine (A2 _ B1.out.2).mono ?_
        rintro e w3 ⟨rfl, hw3⟩
        have hw3' := hw3.symm
        subst hw3'
        clear hw3
        go_wp2_with fail
        have X1 : Hid (Boxed (wr.alloc (.cells #[.int .i64 net, .int .i64 (32 - (s : Int)), .int .i64 hop] 53)) wr.heap.size #[.int .i64 net, .int .i64 (32 - (s : Int)), .int .i64 hop] 53 ∧ b1 < (wr.alloc (.cells #[.int .i64 net, .int .i64 (32 - (s : Int)), .int .i64 hop] 53)).heap.size) := ⟨Boxed.new _ _ _, by simp; omega⟩
        clear c0 c1 c2
        generalize wr.alloc (.cells #[.int .i64 net, .int .i64 (32 - (s : Int)), .int .i64 hop] 53) = W1 at X1 B1 d2 ⊢
        obtain ⟨B, hB⟩ : ∃ B, wr.heap.size = B := ⟨_, rfl⟩
        rw [hB] at X1
        simp only [hB]
        clear hB
        have f0 : ∀ p : BelW W1.heap.size W1, p.w'.cell? ⟨B, 2, none⟩ = some (.int .i64 hop) := fun p => (X1.out.1.below X1.out.1.under p.h).cell 2 rfl
        have f1 : ∀ p : BelW W1.heap.size W1, p.w'.cell? ⟨b1, o1 + M * 3 + 2, none⟩ = some (.int .i64 hop) := fun p => by rw [p.h.cell (p := ⟨b1, o1 + M * 3 + 2, none⟩) X1.out.2]; exact d2
        clear d2
        have hd : decide ((M : Int) < 0) = false := decide_eq_false (by omega)
        haveI : Nonempty (BelW W1.heap.size W1) := ⟨⟨W1, Below.refl _ _⟩⟩
        refine region_below W1.heap.size (by kernel_rfl) (by kernel_rfl) ?_
        repeat (go_big_quiet_step (fail))
        refine wpQuiet_nil ?_
        intro wq hx
        have HQ : Hid (Below w.heap.size w wq ∧ Boxed wq B #[.int .i64 net, .int .i64 (32 - (s : Int)), .int .i64 hop] 53 ∧ RtsAt wq (some ⟨b1, o1, none⟩) l) := ⟨B1.out.1.trans ((BelW.out hx).mono B1.out.1.size), X1.out.1.below X1.out.1.under (BelW.out hx), B1.out.2.below (BelW.out hx)⟩
        clear hx f0 f1 X1 B1 A2 hd
        go_wp2
        go_loopw [6, 7] (fun v i wx => ∃ j : Nat, j ≤ len ∧ i = .int .i64 j ∧ Hid (RRow wq.heap.size wx v (skipK l k M j) ∧ v ≠ .slice none 0 0 ∧ Below wq.heap.size wq wx)) (fun _ i _ => len - (intOf i).toNat)
        case atStart => exact ⟨0, Nat.zero_le _, rfl, row_built _ _ (Nat.le_refl _), (fun e => by cases e), (Below.refl _ _).alloc (Nat.le_refl _) _⟩
        case round =>
          obtain ⟨j, hj, rfl, H3⟩ := hrel
          have hbx : Below w.heap.size w wr := HQ.out.1.trans (H3.out.2.2.mono HQ.out.1.size)
          have Hbx : Hid (Below w.heap.size w wr) := hbx
          have hbs : w.heap.size ≤ wr.heap.size := hbx.size
          clear hbx
          by_cases hjl : j < len
          · have hjl' : (j : Int) < (len : Int) := by omega
            have Hs : Hid _ := skipK_succ l k M j
            by_cases hj1 : j = k ∨ j = M
            · have Hn : Hid (RRow wq.heap.size wr u6 (skipK l k M (j + 1)) ∧ u6 ≠ .slice none 0 0 ∧ Below wq.heap.size wq wr) := ⟨by rw [Hs.out, if_pos hj1]; exact H3.out.1, H3.out.2.1, H3.out.2.2⟩
              clear Hs H3
              rcases hj1 with rfl | rfl
              · go_wp2
                go_roundw
                case rel => exact ⟨j + 1, by omega, by go_num, Hn⟩
                case measure => simp [intOf]; omega
              · by_cases hj2 : j = k
                · subst hj2
                  go_wp2
                  go_roundw
                  case rel => exact ⟨j + 1, by omega, by go_num, Hn⟩
                  case measure => simp [intOf]; omega
                · go_wp2
                  go_roundw
                  case rel => exact ⟨j + 1, by omega, by go_num, Hn⟩
                  case measure => simp [intOf]; omega
            · have hj2 : ¬ j = k := fun e => hj1 (.inl e)
              have hj3 : ¬ j = M := fun e => hj1 (.inr e)
              have hb2 : ((j : Int) != (k : Int)) = true := by rw [bne_iff_ne]; omega
              have hb3 : ((j : Int) != (M : Int)) = true := by rw [bne_iff_ne]; omega
              obtain ⟨c0, c1, c2⟩ := cells_at (HQ.out.2.2.below H3.out.2.2) (k := j) (by rw [Hlen.out]; exact hjl)
              have Hs2 : Hid (skipK l k M (j + 1) = skipK l k M j ++ [rtAt l j]) := by
                show skipK l k M (j + 1) = _
                rw [Hs.out, if_neg hj1]
              clear Hs hj1
              have hle := skipK_le l k M j
              generalize rtAt l j = x at c0 c1 c2 Hs2
              go_wp2_with (at_builtin; refine row_app rfl (.tmp 71) (.tmp 76) rfl wq.heap.size _ (skipK l k M j) _ 1 1 [x] rfl rfl rfl (H3.out.1.alloc _) (by intro q hq; obtain rfl : q = 0 := (by simpa using hq); exact ⟨_, 0, rfl, by simp, by simp [rtAt], by simp [rtAt], by simp [rtAt]⟩) (by simp) (by simp; omega) (by have := H3.out.2.2.size; simp; omega) ?_)
              intro v2 w2 r2 b2 _ n2
              have Hn : Hid (RRow wq.heap.size w2 v2 (skipK l k M (j + 1)) ∧ v2 ≠ .slice none 0 0 ∧ Below wq.heap.size wq w2) := by
                refine ⟨by rw [Hs2.out]; exact r2, fun e => H3.out.2.1 (n2 e), ?_⟩
                exact (H3.out.2.2.alloc H3.out.2.2.size _).trans b2
              clear r2 b2 n2 H3 Hs2
              go_wp2
              go_roundw
              case rel => exact ⟨j + 1, by omega, by go_num, Hn⟩
              case measure => simp [intOf]; omega
          · obtain rfl : j = len := by omega
            obtain ⟨g6, cap6, hv6⟩ := H3.out.1.some H3.out.2.1
            have hle := skipK_le l k M j
            have S4 := specL4Put wq.heap.size g6 cap6 (skipK l k M j) ⟨net, 32 - (s : Int) - 1, hop⟩ wr (by omega) H3.out.2.2.size (by have := H3.out.1; rw [hv6] at this; exact this)
            rw [HF.out] at S4
            unfold Rt.val at S4
            simp only [] at S4
            have xb := HQ.out.2.1.below HQ.out.2.1.under H3.out.2.2
            have c0 : wr.cell? ⟨B, 0, none⟩ = some (.int .i64 net) := xb.cell 0 rfl
            have c1 : wr.cell? ⟨B, 1, none⟩ = some (.int .i64 (32 - (s : Int))) := xb.cell 1 rfl
            have c2 : wr.cell? ⟨B, 2, none⟩ = some (.int .i64 hop) := xb.cell 2 rfl
            have H3b : Hid (Below wq.heap.size wq wr) := H3.out.2.2
            clear H3 xb
            subst hv6
            generalize (skipK l k M j).length = sl at S4 hle ⊢
            go_wp2_with fail
            refine S4.mono ?_
            rintro e w5 ⟨⟨v5, rfl, r5, n5⟩, b5⟩
            have H5 : Hid (RRow w.heap.size w5 v5 (pairL l) ∧ v5 ≠ .slice none 0 0 ∧ Below w.heap.size w w5) := ⟨r5.mono HQ.out.1.size, n5, HQ.out.1.trans ((H3b.out.trans b5).mono HQ.out.1.size)⟩
            clear r5 n5 b5 S4
            go_wp2
            go_ret
            exact ⟨⟨_, rfl, H5.out.1, H5.out.2.1⟩, H5.out.2.2⟩
      · have had := pair_ahead hf.out (k := k) (by rw [HN.out]; omega) rfl
        clear hmem hrk R
        generalize rtAt l k = r at c0 c1 c2 had B1 p1 p2 p3 p4
        obtain ⟨net, bits, hop⟩ := r
        simp only [] at c0 c1 c2 had B1 p1 p2 p3 p4
        by_cases g0 : bits = 0
        · subst g0
          clear had p1 p2 p3 p4
          go_wp2
          go_roundw
          case rel => exact ⟨k + 1, by omega, by go_num, B1.out.1⟩
          case measure => simp [intOf]; omega
        · obtain ⟨s, hs, hbs⟩ := bits_of (inB_true.2 p1)
          have hps : (2 : Int) ^ (32 - bits).toNat = 2 ^ s := by rw [hbs, pow_of hs]
          rw [hps] at had
          subst hbs
          have e32 : 32 - (32 - s) = s := by omega
          have q0 := pow_pos' s
          have q1 := pow_le32 hs
          obtain ⟨q, hq⟩ : ∃ q, net / 2 ^ (32 - (32 - s)) = q := ⟨_, rfl⟩
          have hq' : net / 2 ^ s = q := by rw [← hq, e32]
          rw [hq'] at had
          have hqn : 0 ≤ q := by rw [← hq']; exact Int.ediv_nonneg p2.1 (by omega)
          have ht : q.tmod 2 = q % 2 := Int.tmod_eq_emod_of_nonneg hqn
          rcases had with g1 | g1 | g1
          · exact absurd g1 g0
          · have g2 : q.tmod 2 = 1 := by omega
            clear p1 p2 p3 p4 hps e32 q0 q1 hq' hqn ht g1
            go_wp2
            go_roundw
            case rel => exact ⟨k + 1, by omega, by go_num, B1.out.1⟩
            case measure => simp [intOf]; omega
          · by_cases g5 : q % 2 = 0
            · obtain ⟨P, hP⟩ : ∃ P : Int, (2 : Int) ^ s = P := ⟨_, rfl⟩
              rw [hP] at q0 q1 g1
              have hw1 : wrap64 ((2 : Int) ^ (32 - (32 - s))) = P := by rw [e32, hP]; unfold wrap64; omega
              have g2 : q.tmod 2 = 0 := by omega
              have p20 := p2.1
              have p21 := p2.2
              have A2 := A'.out (net + P) (32 - (s : Int))
              obtain ⟨M, hM⟩ : ∃ M, atN l (net + P) (32 - (s : Int)) = M := ⟨_, rfl⟩
              rw [hM] at A2
              rw [hM, Hlen.out] at g1
              have hs0 : ¬ 32 - (s : Int) = 0 := g0
              clear p1 p2 p3 p4 hps e32 hq' hqn ht g5 hM hP
              rcases g1 with g1 | g1
              · rw [if_neg g1] at A2
                go_wp2_with fail
                refine (A2 _ B1.out.2).mono ?_
                rintro e w3 ⟨rfl, hw3⟩
                have hw3' := hw3.symm
                subst hw3'
                clear hw3
                go_wp2_with fail
                go_region
                go_wp2
                go_roundw
                case rel => exact ⟨k + 1, by omega, by go_num, B1.out.1.drew⟩
                case measure => simp [intOf]; omega
              · obtain ⟨g1, g6⟩ := g1
                rw [if_pos g1] at A2
                obtain ⟨d0, d1, d2⟩ := cells_at B1.out.2 (k := M) (by rw [Hlen.out]; exact g1)
                generalize (rtAt l M).hop = z at g6 d2
                have g7 : (M : Int) < (len : Int) := by omega
                clear d0 d1
                go_wp2_with fail
                refine (A2 _ B1.out.2).mono ?_
                rintro e w3 ⟨rfl, hw3⟩
                have hw3' := hw3.symm
                subst hw3'
                clear hw3
                go_wp2_with fail
                have X1 : Hid (Boxed (wr.alloc (.cells #[.int .i64 net, .int .i64 (32 - (s : Int)), .int .i64 hop] 53)) wr.heap.size #[.int .i64 net, .int .i64 (32 - (s : Int)), .int .i64 hop] 53 ∧ b1 < (wr.alloc (.cells #[.int .i64 net, .int .i64 (32 - (s : Int)), .int .i64 hop] 53)).heap.size) := ⟨Boxed.new _ _ _, by simp; omega⟩
                clear c0 c1 c2
                generalize wr.alloc (.cells #[.int .i64 net, .int .i64 (32 - (s : Int)), .int .i64 hop] 53) = W1 at X1 B1 d2 ⊢
                have f0 : ∀ p : BelW W1.heap.size W1, p.w'.cell? ⟨wr.heap.size, 2, none⟩ = some (.int .i64 hop) := fun p => (X1.out.1.below X1.out.1.under p.h).cell 2 rfl
                have f1 : ∀ p : BelW W1.heap.size W1, p.w'.cell? ⟨b1, o1 + M * 3 + 2, none⟩ = some (.int .i64 z) := fun p => by rw [p.h.cell (p := ⟨b1, o1 + M * 3 + 2, none⟩) X1.out.2]; exact d2
                clear d2
                have hd : decide ((M : Int) < 0) = false := decide_eq_false (by omega)
                haveI : Nonempty (BelW W1.heap.size W1) := ⟨⟨W1, Below.refl _ _⟩⟩
                refine region_below W1.heap.size (by kernel_rfl) (by kernel_rfl) ?_
                repeat (go_big_quiet_step (fail))
                refine wpQuiet_nil ?_
                intro wq hx
                have HQ : Hid (Below w.heap.size w wq) := B1.out.1.trans ((BelW.out hx).mono B1.out.1.size)
                clear hx f0 f1
                go_wp2
                go_roundw
                case rel => exact ⟨k + 1, by omega, by go_num, HQ⟩
                case measure => simp [intOf]; omega
            · rcases g1 with g1 | g1
              · have g2 : q.tmod 2 = 1 := by omega
                clear p1 p2 p3 p4 hps e32 q0 q1 hq' hqn ht g1 g5
                go_wp2
                go_roundw
                case rel => exact ⟨k + 1, by omega, by go_num, B1.out.1⟩
                case measure => simp [intOf]; omega
              · have g2 : q.tmod 2 = 1 := by omega
                clear p1 p2 p3 p4 hps e32 q0 q1 hq' hqn ht g1 g5
                go_wp2
                go_roundw
                case rel => exact ⟨k + 1, by omega, by go_num, B1.out.1⟩
                case measure => simp [intOf]; omega
    · obtain rfl : k = len := by omega
      obtain rfl : k = N := by omega
      have HPL : Hid (pairL l = l) := by
        show pairL l = l
        rcases pair_or hf.out with ⟨hx, _⟩ | ⟨_, e⟩
        · rw [HN.out, Hlen.out] at hx; omega
        · exact e
      have R : Hid (RtsAt wr a l) := h.out.below H1.out
      go_wp2_with (at_builtin; refine row_app rfl (.tmp 88) (.tmp 89) rfl w.heap.size _ [] _ _ _ l Hlen.out rfl rfl (row_built _ _ H1.out.size) (R.out.alloc _) hn (by rw [Hlen.out]; simp; omega) (by have := H1.out.size; simp; omega) ?_)
      intro v2 w2 r2 b2 _ n2
      have H2 : Hid (RRow w.heap.size w2 v2 l ∧ v2 ≠ .slice none 0 0 ∧ Below w.heap.size w w2) := ⟨r2, (fun e => by have := n2 e; cases this), (H1.out.alloc H1.out.size _).trans b2⟩
      clear r2 b2 n2
      go_wp2
      go_ret
      exact ⟨⟨_, rfl, by rw [HPL.out]; exact H2.out.1, H2.out.2.1⟩, H2.out.2.2⟩
end Go.Proofs.Ytilnjmpnhadidaa
