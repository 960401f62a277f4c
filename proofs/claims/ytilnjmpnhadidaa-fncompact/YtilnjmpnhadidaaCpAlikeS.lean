/-
  The walk of the model's Alike. By the verifier.
-/
import Derived.Test.YtilnjmpnhadidaaCpAlikeM
import Derived.Test.YtilnjmpnhadidaaRtL4Hop
import Derived.Test.YtilnjmpnhadidaaRtOkS
namespace Go.Proofs.Ytilnjmpnhadidaa
open Go.RowKit

theorem wrap_id {x : Int} (h0 : 0 ≤ x) (h1 : x ≤ 9223372036854775807) : IntKind.i64.wrap x = x := by rw [IntKind.wrap_i64]; omega
theorem wrap_pow {s : Nat} {P : Int} (hs : s ≤ 32) (hP : (2 : Int) ^ s = P) : IntKind.i64.wrap (2 ^ (32 - (32 - (s : Int))).toNat) = P := by
  have q0 := pow_pos' s
  have q1 := pow_le32 hs
  rw [show (32 - (32 - (s : Int))).toNat = s by omega, hP, IntKind.wrap_i64]
  rw [hP] at q0 q1
  omega
set_option maxHeartbeats 3200000 in
set_option maxRecDepth 100000 in
theorem specAlike (a b : Option Addr) (ca cb : Nat) (la lb : List Rt) (w : World) (hTa : la.length ≤ 1048576) (hTb : lb.length ≤ 1048576) (hna : a = none → ca = 0) (hnb : b = none → cb = 0) (ha : Hid (RtsAt w a la)) (hb : Hid (RtsAt w b lb)) :
    Calls Try.prog 19 #[.slice a la.length ca, .slice b lb.length cb] w fun e w' => e = .returned (.bool (alikeV la lb)) ∧ Below w.heap.size w w' := by
  have C := fun w h => specOk a ca la w hTa h
  have D := fun w h => specOk b cb lb w hTb h
  unfold alikeV
  cases hoa : rtsOk la
  · rw [hoa] at C
    have C' : Hid _ := C
    simp only [Bool.false_and]
    clear C D hoa hTa hTb
    generalize la.length = na at C' ⊢
    generalize lb.length = nb
    go_enter Try.func19, Try.ntmps19
    go_wp2_with fail
    refine (C'.out _ ha).mono ?_
    rintro e w1 ⟨rfl, b1⟩
    have B : Hid (Below w.heap.size w w1) := b1
    clear b1
    go_wp2
    go_ret
    exact ⟨rfl, B.out⟩
  rw [hoa] at C
  simp only [Bool.true_and]
  cases hob : rtsOk lb
  · rw [hob] at D
    have C' : Hid _ := C
    have D' : Hid _ := D
    simp only [Bool.false_and]
    clear C D hoa hob hTa hTb
    generalize la.length = na at C' ⊢
    generalize lb.length = nb at D' ⊢
    go_enter Try.func19, Try.ntmps19
    go_wp2_with fail
    refine (C'.out _ ha).mono ?_
    rintro e w1 ⟨rfl, b1⟩
    have B : Hid (Below w.heap.size w w1) := b1
    clear b1
    go_wp2_with fail
    refine (D'.out _ (hb.out.below B.out)).mono ?_
    rintro e w2 ⟨rfl, b2⟩
    have B2 : Hid (Below w.heap.size w w2) := B.out.trans (b2.mono B.out.size)
    clear b2 B
    go_wp2
    go_ret
    exact ⟨rfl, B2.out⟩
  rw [hob] at D
  simp only [Bool.true_and]
  have fa := fine_of hoa
  have fb := fine_of hob
  have h64a := (ok_all hoa).1
  have h64b := (ok_all hob).1
  have hat := at_all fa fb
  have hokc : Hid (∀ r ∈ la ++ lb, r.ok = true) := fun r hr => (List.mem_append.1 hr).elim (fa.ok r) (fb.ok r)
  have hlc : (la ++ lb).length ≤ 128 := by rw [List.length_append]; omega
  have HPa : Hid (∀ x w, 0 ≤ x ∧ x ≤ 4294967295 → RtsAt w a la → Calls Try.prog 43 #[.slice a la.length ca, .int .i64 x] w fun e w' => e = .returned (.int .i64 (hopL la x)) ∧ Below w.heap.size w w') := fun x w hx h => specL4Hop a ca la x w hTa hx (fun k hk => inB_true.2 (ok_split (fa.ok _ (by rw [rtAt_lt hk]; exact List.getElem_mem _))).1) h
  have HPb : Hid (∀ x w, 0 ≤ x ∧ x ≤ 4294967295 → RtsAt w b lb → Calls Try.prog 43 #[.slice b lb.length cb, .int .i64 x] w fun e w' => e = .returned (.int .i64 (hopL lb x)) ∧ Below w.heap.size w w') := fun x w hx h => specL4Hop b cb lb x w hTb hx (fun k hk => inB_true.2 (ok_split (fb.ok _ (by rw [rtAt_lt hk]; exact List.getElem_mem _))).1) h
  have hin : Hid (∀ k, ∀ x ∈ atK (la ++ lb) k, 0 ≤ x ∧ x ≤ 4294967295) := by
    intro k x hx
    unfold atK at hx
    rcases (at_mem _ _ _).1 hx with h1 | h1
    · have : x = 0 := by simpa using h1
      omega
    · unfold turnsL at h1
      rw [List.mem_flatMap] at h1
      obtain ⟨r, hr, h1⟩ := h1
      exact turn_in (hokc.out r (List.mem_of_mem_take hr)) x h1
  rw [← hat]
  have C' : Hid _ := C
  have D' : Hid _ := D
  clear C D hoa hob hTa hTb fa fb hat
  obtain ⟨na, hla⟩ : ∃ n, la.length = n := ⟨_, rfl⟩
  obtain ⟨nb, hlb⟩ : ∃ n, lb.length = n := ⟨_, rfl⟩
  have Hla : Hid (la.length = na) := hla
  have Hlb : Hid (lb.length = nb) := hlb
  simp only [hla, hlb] at C' D' HPa HPb h64a h64b ⊢
  obtain ⟨nc, hlcn⟩ : ∃ n, (la ++ lb).length = n := ⟨_, rfl⟩
  have Hlc : Hid ((la ++ lb).length = nc) := hlcn
  rw [hlcn] at hlc ⊢
  clear hla hlb hlcn
  go_enter Try.func19, Try.ntmps19
  go_wp2_with fail
  refine (C'.out _ ha).mono ?_
  rintro e w1 ⟨rfl, b1⟩
  have B : Hid (Below w.heap.size w w1) := b1
  clear b1
  go_wp2_with fail
  refine (D'.out _ (hb.out.below B.out)).mono ?_
  rintro e w2 ⟨rfl, b2⟩
  have B2 : Hid (Below w.heap.size w w2) := B.out.trans (b2.mono B.out.size)
  clear b2 B C' D'
  obtain ⟨G, hG⟩ : ∃ G, w2.heap.size = G := ⟨_, rfl⟩
  obtain ⟨W3, hW3⟩ : ∃ W, w2.alloc (.cells #[.int .i64 0] 2) = W := ⟨_, rfl⟩
  have H3 : Hid (IRow w.heap.size W3 (.slice (some ⟨G, 0, none⟩) 1 1) [0] ∧ Below w.heap.size w W3 ∧ RtsAt W3 a la ∧ RtsAt W3 b lb) := by
    rw [← hW3, ← hG]
    exact ⟨⟨rfl, .inr ⟨w2.heap.size, 1, #[.int .i64 0], rfl, B2.out.size, Boxed.new _ _ _, Nat.le_refl _, by decide, rfl, rfl⟩⟩, B2.out.alloc B2.out.size _, (ha.out.below B2.out).alloc _, (hb.out.below B2.out).alloc _⟩
  go_wp2_with (at_builtin; refine row_app rfl (.tmp 19) (.tmp 20) rfl W3.heap.size _ [] _ _ _ la Hla.out rfl rfl (row_built _ _ (Nat.le_refl _)) (H3.out.2.2.1.alloc _) hna (by rw [Hla.out]; simp; omega) (by simp) ?_)
  intro v4 w4 r4 b4 _ n4
  have H4 : Hid (RRow W3.heap.size w4 v4 la ∧ Below W3.heap.size W3 w4) := ⟨by simpa using r4, ((Below.refl _ W3).alloc (Nat.le_refl _) _).trans b4⟩
  clear r4 b4 n4
  go_wp2_with (at_builtin; refine row_app rfl (.tmp 21) (.tmp 22) rfl W3.heap.size _ la _ _ _ lb Hlb.out rfl rfl H4.out.1 (H3.out.2.2.2.below H4.out.2) hnb (by rw [Hla.out, Hlb.out]; omega) H4.out.2.size ?_)
  intro v5 w5 r5 b5 _ n5
  obtain ⟨a5, c5, hv5⟩ := RRow.shape r5
  rw [Hlc.out] at hv5
  have H5 : Hid (RtsAt w5 a5 (la ++ lb) ∧ Below W3.heap.size W3 w5 ∧ IRow w.heap.size w5 (.slice (some ⟨G, 0, none⟩) 1 1) [0] ∧ Below w.heap.size w w5 ∧ RtsAt w5 a la ∧ RtsAt w5 b lb) := by
    have q := H4.out.2.trans b5
    refine ⟨?_, q, H3.out.1.below (fun k hk => (H3.out.1.lt k hk).2) q, H3.out.2.1.trans (q.mono H3.out.2.1.size), H3.out.2.2.1.below q, H3.out.2.2.2.below q⟩
    rw [hv5, ← Hlc.out] at r5
    exact RRow.at r5
  subst hv5
  clear r5 b5 n5 H4 H3 hW3
  clear hG
  go_wp2
  go_loopw [5, 7] (fun v i wr => ∃ k : Nat, k ≤ nc ∧ i = .int .i64 k ∧ Hid (IRow w.heap.size wr v (atK (la ++ lb) k) ∧ v ≠ .slice none 0 0 ∧ Below w5.heap.size w5 wr)) (fun _ i _ => nc - (intOf i).toNat)
  case atStart => exact ⟨0, Nat.zero_le _, rfl, H5.out.2.2.1, (fun e => by cases e), Below.refl _ _⟩
  case round =>
    obtain ⟨k, hk, rfl, H6⟩ := hrel
    obtain ⟨g6, c6, hv6, hc6⟩ := IRow.some H6.out.1 H6.out.2.1
    have hlen := atK_len (la ++ lb) k
    have hbw : Below w.heap.size w wr := H5.out.2.2.2.1.trans (H6.out.2.2.mono H5.out.2.2.2.1.size)
    have hbs := hbw.size
    have Hbw : Hid (Below w.heap.size w wr) := hbw
    clear hbw
    by_cases hkc : k < nc
    · have R : RtsAt wr a5 (la ++ lb) := H5.out.1.below H6.out.2.2
      obtain ⟨b1, o1, ha1, hb1, -⟩ := R k (by rw [Hlc.out]; exact hkc)
      subst ha1
      obtain ⟨d0, d1, d2⟩ := cells_at R (k := k) (by rw [Hlc.out]; exact hkc)
      have Hst : Hid _ := atK_succ (l := la ++ lb) (k := k) (by rw [Hlc.out]; exact hkc)
      have hrk : (rtAt (la ++ lb) k).ok = true := hokc.out _ (by rw [rtAt_lt (by rw [Hlc.out]; exact hkc)]; exact List.getElem_mem _)
      obtain ⟨p1, p2, _, _⟩ := ok_split hrk
      have P1 := specPutI w.heap.size g6 c6 (atK (la ++ lb) k) (rtAt (la ++ lb) k).net wr (by omega) hlen.1 hc6 hbs (by rw [← hv6]; exact H6.out.1)
      have P2 := fun g c x (h1 : Below wr.heap.size wr x) (hc : (insI (atK (la ++ lb) k) (rtAt (la ++ lb) k).net).length ≤ c) (hr : IRow w.heap.size x (.slice (some ⟨g, 0, none⟩) (insI (atK (la ++ lb) k) (rtAt (la ++ lb) k).net).length c) (insI (atK (la ++ lb) k) (rtAt (la ++ lb) k).net)) => specPutI w.heap.size g c (insI (atK (la ++ lb) k) (rtAt (la ++ lb) k).net) (endV (rtAt (la ++ lb) k)) x (by have := insI_len (atK (la ++ lb) k) (rtAt (la ++ lb) k).net; omega) (by have := insI_ge (atK (la ++ lb) k) (rtAt (la ++ lb) k).net; omega) hc (Nat.le_trans hbs h1.size) hr
      unfold atStep endV at Hst
      unfold endV at P2
      clear hrk R
      have hks : ((k : Int) < (nc : Int)) := by omega
      generalize rtAt (la ++ lb) k = r at d0 d1 d2 Hst p1 p2 P1 P2
      obtain ⟨s, hs, hbits⟩ := bits_of (inB_true.2 p1)
      obtain ⟨net, bits, hop⟩ := r
      simp only [] at d0 d1 d2 Hst p1 p2 P1 P2 hbits
      subst hbits
      rw [pow_of hs] at P2
      have Hst2 : Hid (atK (la ++ lb) (k + 1) = if net + 2 ^ s ≤ 4294967295 then insI (insI (atK (la ++ lb) k) net) (net + 2 ^ s) else insI (atK (la ++ lb) k) net) := by
        have := Hst.out
        rw [pow_of hs] at this
        exact this
      have e32 : 32 - (32 - s) = s := by omega
      have q0 := pow_pos' s
      have q1 := pow_le32 hs
      obtain ⟨P, hP⟩ : ∃ P : Int, (2 : Int) ^ s = P := ⟨_, rfl⟩
      rw [hP] at q0 q1 P2 Hst2
      have hw1 : wrap64 ((2 : Int) ^ (32 - (32 - s))) = P := by rw [e32, hP]; unfold wrap64; omega
      have HPs : Hid (∀ n : Nat, n = s → (2 : Int) ^ n = P) := fun n e => by rw [e]; exact hP
      have p20 := p2.1
      have p21 := p2.2
      have SH : Hid (∀ base x v, IRow base x v (insI (atK (la ++ lb) k) net) → v ≠ .slice none 0 0 → ∃ g c, v = .slice (some ⟨g, 0, none⟩) (insI (atK (la ++ lb) k) net).length c ∧ (insI (atK (la ++ lb) k) net).length ≤ c) := fun base x v hr hv => IRow.some hr hv
      have P2' : Hid _ := P2
      generalize insI (atK (la ++ lb) k) net = ys at P1 P2' SH Hst2
      clear Hst e32 hP p1 p2 hlen P2
      generalize ys.length = yl at P2' SH
      subst hv6
      have Hg : Hid (g6 < wr.heap.size) := (H6.out.1.lt g6 rfl).2
      generalize (atK (la ++ lb) k).length = xl at P1 hc6 ⊢
      have HX : Hid (b1 < wr.heap.size) := hb1
      clear hb1 hc6 d2
      go_wp2_with fail
      refine P1.mono ?_
      rintro e w7 ⟨⟨v7, rfl, r7, n7⟩, b7⟩
      obtain ⟨g7, c7, hv7, hc7⟩ := SH.out _ _ _ r7 n7
      subst hv7
      have e0 : w7.cell? ⟨b1, o1 + k * 3, none⟩ = some (.int .i64 net) := by rw [b7.cell (p := ⟨b1, o1 + k * 3, none⟩) HX.out]; exact d0
      have e1 : w7.cell? ⟨b1, o1 + k * 3 + 1, none⟩ = some (.int .i64 (32 - (s : Int))) := by rw [b7.cell (p := ⟨b1, o1 + k * 3 + 1, none⟩) HX.out]; exact d1
      have hb7 : b1 < w7.heap.size := Nat.lt_of_lt_of_le HX.out b7.size
      have H7 : Hid (IRow w.heap.size w7 (.slice (some ⟨g7, 0, none⟩) yl c7) ys ∧ Below wr.heap.size wr w7) := ⟨r7, b7⟩
      clear r7 n7 b7 d0 d1 P1
      go_wp2_with fail
      have f0 : ∀ p : BelW w7.heap.size w7, p.w'.cell? ⟨b1, o1 + k * 3, none⟩ = some (.int .i64 net) := fun p => by rw [p.h.cell (p := ⟨b1, o1 + k * 3, none⟩) hb7]; exact e0
      have f1 : ∀ p : BelW w7.heap.size w7, p.w'.cell? ⟨b1, o1 + k * 3 + 1, none⟩ = some (.int .i64 (32 - (s : Int))) := fun p => by rw [p.h.cell (p := ⟨b1, o1 + k * 3 + 1, none⟩) hb7]; exact e1
      clear e0 e1 hb7
      haveI : Nonempty (BelW w7.heap.size w7) := ⟨⟨w7, Below.refl _ _⟩⟩
      refine region_below w7.heap.size (by kernel_rfl) (by kernel_rfl) ?_
      iterate 12 (go_big_quiet_step (fail))
      refine wpQuiet_step fun K hK => ?_
      rw [if_pos (by simp [Region.wanted])]
      refine ⟨.int .i64 P, fun wy _ => ?q, hK _ ?r⟩
      case q =>
        clear hK
        clear f0 f1 P2' SH Hst2 HX Hg H7
        unfold Oper.quietAt
        simp [go_sem, Oper.quietUpon]
        exact wrap_pow hs (HPs.out s rfl)
      case r =>
      simp only [Act.put, List.setIfInBounds_toArray, List.set_cons_succ, List.set_cons_zero]
      clear hK hw1
      have hwq : IntKind.i64.wrap (net + P) = net + P := wrap_id (by omega) (by omega)
      repeat (go_big_quiet_step (fail))
      refine wpQuiet_nil ?_
      intro wq hx
      have H8 : Hid (IRow w.heap.size wq (.slice (some ⟨g7, 0, none⟩) yl c7) ys ∧ Below wr.heap.size wr wq) := ⟨H7.out.1.below (fun q hq => (H7.out.1.lt q hq).2) (BelW.out hx), H7.out.2.trans ((BelW.out hx).mono H7.out.2.size)⟩
      clear hx f0 f1 H7 hwq
      by_cases he : net + P ≤ 4294967295
      · have Ht3 : Hid (atK (la ++ lb) (k + 1) = insI ys (net + P)) := by
          have := Hst2.out
          rw [if_pos he] at this
          exact this
        clear Hst2
        have PQ := P2'.out g7 c7 wq H8.out.2 hc7 H8.out.1
        go_wp2_with fail
        refine PQ.mono ?_
        rintro e w9 ⟨⟨v9, rfl, r9, n9⟩, b9⟩
        have H9 : Hid (IRow w.heap.size w9 v9 (atK (la ++ lb) (k + 1)) ∧ v9 ≠ .slice none 0 0 ∧ Below w5.heap.size w5 w9) := ⟨by rw [Ht3.out]; exact r9, n9, H6.out.2.2.trans ((H8.out.2.trans (b9.mono H8.out.2.size)).mono H6.out.2.2.size)⟩
        clear r9 n9 b9 PQ
        go_wp2
        go_roundw
        case rel => exact ⟨k + 1, by omega, by go_num, H9⟩
        case measure => simp [intOf]; omega
      · have Ht3 : Hid (atK (la ++ lb) (k + 1) = ys) := by
          have := Hst2.out
          rw [if_neg he] at this
          exact this
        clear Hst2
        have H9 : Hid (IRow w.heap.size wq (.slice (some ⟨g7, 0, none⟩) yl c7) (atK (la ++ lb) (k + 1)) ∧ (Value.slice (some ⟨g7, 0, none⟩) yl c7) ≠ .slice none 0 0 ∧ Below w5.heap.size w5 wq) := ⟨by rw [Ht3.out]; exact H8.out.1, (fun e => by cases e), H6.out.2.2.trans (H8.out.2.mono H6.out.2.2.size)⟩
        go_wp2
        go_roundw
        case rel => exact ⟨k + 1, by omega, by go_num, H9⟩
        case measure => simp [intOf]; omega
    · obtain rfl : k = nc := by omega
      have hxin := hin.out k
      have HC6 : Hid (∀ j, j < (atK (la ++ lb) k).length → wr.cell? ⟨g6, j, none⟩ = some (.int .i64 ((atK (la ++ lb) k)[j]?.getD 0))) := by
        intro j hj
        exact IRow.cell rfl (by have := H6.out.1; rw [hv6] at this; exact this) j hj
      have Hg : Hid (g6 < wr.heap.size) := by have := H6.out.1; rw [hv6] at this; exact (this.lt g6 rfl).2
      have HRa : Hid (RtsAt wr a la ∧ RtsAt wr b lb) := ⟨H5.out.2.2.2.2.1.below H6.out.2.2, H5.out.2.2.2.2.2.below H6.out.2.2⟩
      subst hv6
      have HXB : Hid ((atK (la ++ lb) k).length ≤ 300) := by show (atK (la ++ lb) k).length ≤ 300; omega
      have Hin : Hid _ := hxin
      clear hxin H6 H5 hlen hc6 hin hokc
      obtain ⟨xs, hxs⟩ : ∃ xs, atK (la ++ lb) k = xs := ⟨_, rfl⟩
      have HXS : Hid (atK (la ++ lb) k = xs) := hxs
      simp only [hxs] at HC6 Hin ⊢
      clear hxs
      obtain ⟨WR, hWR⟩ : ∃ W, W = wr := ⟨_, rfl⟩
      subst hWR
      obtain ⟨xl, hxl⟩ : ∃ n, xs.length = n := ⟨_, rfl⟩
      have Hxl : Hid (xs.length = xl) := hxl
      rw [hxl]
      clear hxl
      have hxb : xl ≤ 300 := by rw [← Hxl.out, ← HXS.out]; exact HXB.out
      go_wp2
      go_loopw [9] (fun i wx => ∃ j : Nat, j ≤ xl ∧ i = .int .i64 j ∧ Hid ((∀ x ∈ xs.take j, hopL la x = hopL lb x) ∧ Below WR.heap.size WR wx)) (fun i _ => xl - (intOf i).toNat)
      case atStart => exact ⟨0, Nat.zero_le _, rfl, by simp, Below.refl _ _⟩
      case round =>
        obtain ⟨j, hj, rfl, H7⟩ := hrel
        by_cases hjl : j < xl
        · have hjx : j < xs.length := by rw [Hxl.out]; exact hjl
          have c0 := HC6.out j hjx
          rw [List.getElem?_eq_getElem hjx, Option.getD_some] at c0
          have hx := Hin.out xs[j] (List.getElem_mem hjx)
          have Htk : Hid (xs.take (j + 1) = xs.take j ++ [xs[j]]) := List.take_succ_eq_append_getElem hjx
          have HM : Hid (xs[j] ∈ xs) := List.getElem_mem hjx
          generalize xs[j] = x at c0 hx Htk HM
          have f0 : ∀ p : BelW wr.heap.size wr, p.w'.cell? ⟨g6, j, none⟩ = some (.int .i64 x) := fun p => by
            rw [(H7.out.2.trans (p.h.mono H7.out.2.size)).cell (p := ⟨g6, j, none⟩) Hg.out]
            exact c0
          have A1 : ∀ p : BelW wr.heap.size wr, Calls Try.prog 43 #[.slice a na ca, .int .i64 x] p.w' fun e w' => e = .returned (.int .i64 (hopL la x)) ∧ Below p.w'.heap.size p.w' w' := fun p => HPa.out x p.w' hx (HRa.out.1.below (H7.out.2.trans (p.h.mono H7.out.2.size)))
          have A2 : ∀ p : BelW wr.heap.size wr, Calls Try.prog 43 #[.slice b nb cb, .int .i64 x] p.w' fun e w' => e = .returned (.int .i64 (hopL lb x)) ∧ Below p.w'.heap.size p.w' w' := fun p => HPb.out x p.w' hx (HRa.out.2.below (H7.out.2.trans (p.h.mono H7.out.2.size)))
          have hjl' : (j : Int) < (xl : Int) := by omega
          obtain ⟨ya, hya⟩ : ∃ y, hopL la x = y := ⟨_, rfl⟩
          obtain ⟨yb, hyb⟩ : ∃ y, hopL lb x = y := ⟨_, rfl⟩
          simp only [hya] at A1
          simp only [hyb] at A2
          have Hya : Hid (hopL la x = ya) := hya
          have Hyb : Hid (hopL lb x = yb) := hyb
          have A1' : Hid _ := A1
          have A2' : Hid _ := A2
          clear A1 A2 hya hyb c0 hx hjx
          haveI : Nonempty (BelW wr.heap.size wr) := ⟨⟨wr, Below.refl _ _⟩⟩
          go_wp2_with fail
          refine region_below wr.heap.size (by kernel_rfl) (by kernel_rfl) ?_
          iterate 6 (go_big_quiet_step ((go_at_call 43; refine quiet_below (Nat.le_refl _) (A1'.out _))))
          repeat (go_big_quiet_step ((go_at_call 43; refine quiet_below (Nat.le_refl _) (A2'.out _))))
          refine wpQuiet_nil ?_
          intro wq hx
          have HQ : Hid (Below WR.heap.size WR wq) := H7.out.2.trans ((BelW.out hx).mono H7.out.2.size)
          clear hx f0 A1' A2'
          by_cases hy : ya = yb
          · subst hy
            have H9 : Hid ((∀ y ∈ xs.take (j + 1), hopL la y = hopL lb y) ∧ Below WR.heap.size WR wq) := by
              refine ⟨fun y hy => ?_, HQ.out⟩
              rw [Htk.out] at hy
              rcases List.mem_append.1 hy with h1 | h1
              · exact H7.out.1 y h1
              · rw [List.mem_singleton.1 h1, Hya.out, Hyb.out]
            go_wp2
            go_roundw
            case rel => exact ⟨j + 1, by omega, by go_num, H9⟩
            case measure => simp [intOf]; omega
          · have HFa : Hid ((xs.all fun x => decide (hopL la x = hopL lb x)) = false) := by
              show (xs.all fun x => decide (hopL la x = hopL lb x)) = false
              rw [List.all_eq_false]
              refine ⟨x, HM.out, ?_⟩
              rw [Hya.out, Hyb.out]
              simpa using hy
            go_wp2
            go_ret
            refine ⟨?_, Hbw.out.trans (HQ.out.mono Hbw.out.size)⟩
            rw [HXS.out, HFa.out]
            rfl
        · obtain rfl : j = xl := by omega
          have HTa : Hid ((xs.all fun x => decide (hopL la x = hopL lb x)) = true) := by
            show (xs.all fun x => decide (hopL la x = hopL lb x)) = true
            rw [List.all_eq_true]
            intro y hy
            rw [decide_eq_true_iff]
            exact H7.out.1 y (by rw [List.take_of_length_le (by rw [Hxl.out]; exact Nat.le_refl _)]; exact hy)
          go_wp2
          go_ret
          refine ⟨?_, Hbw.out.trans (H7.out.2.mono Hbw.out.size)⟩
          rw [HXS.out, HTa.out]
          rfl
end Go.Proofs.Ytilnjmpnhadidaa
