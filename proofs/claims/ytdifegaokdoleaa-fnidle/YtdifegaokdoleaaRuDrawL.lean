/-
  The model's drawing of lists of rules. By the verifier, by program.
-/
import Derived.Test.YtdifegaokdoleaaM8RuDrawP
namespace Go.Proofs.Ytdifegaokdoleaa
open Go.RowKit

theorem RuRow.at' {base : Nat} {w : World} {a : Option Addr} {n cap : Nat} {l : List Ru} (h : RuRow base w (.slice a n cap) l) : RusAt w a l := by
  obtain ⟨a', c', e⟩ := h.shape
  cases e
  exact h.at

set_option maxHeartbeats 12800000 in
set_option maxRecDepth 100000 in
theorem drawRules {W : World} {bc : Nat} {ac : Option Addr} {len0 cap : Nat} (hc : Hid (Code W ac len0)) (w : World) (cur : Hid (Cur W bc ac len0 cap w)) :
    Calls Try.prog 59 #[.pointer (some ⟨bc, 0, none⟩)] w fun e w' => ∃ (g c : Nat) (L : List Ru), e = .returned (.slice (some ⟨g, 0, none⟩) L.length c) ∧ L.length ≤ 5 ∧ DrLU W bc ac len0 cap w (.slice (some ⟨g, 0, none⟩) L.length c) L w' := by
  have hbc := cur.out.lt
  go_enter Try.func59, Try.ntmps59
  go_wp2_with fail
  have H0 : Hid (DrLU W bc ac len0 cap w (.slice (some ⟨w.heap.size, 0, none⟩) 0 0) [] (w.alloc (.cells #[] 32))) := ⟨ru_built w _ (Nat.le_refl _), cur.out.alloc _, (Keep.refl _ _).alloc _, hbc⟩
  refine (drawBelow hc 6 (by omega) _ H0.out.cur).mono ?_
  rintro e w1 ⟨⟨x, rfl, x0, x1⟩, c1, k1⟩
  have H1 : Hid (DrLU W bc ac len0 cap w (.slice (some ⟨w.heap.size, 0, none⟩) 0 0) [] w1) := H0.out.draw c1 k1
  clear c1 k1 H0
  go_wp2_with fail
  go_loopw [3, 4] (fun s n wr => ∃ (g c m : Nat) (L : List Ru), s = .slice (some ⟨g, 0, none⟩) L.length c ∧ n = .int .i64 m ∧ L.length + m ≤ 5 ∧ Hid (DrLU W bc ac len0 cap w (.slice (some ⟨g, 0, none⟩) L.length c) L wr)) (fun _ n _ => (intOf n).toNat)
  case atStart =>
    obtain ⟨j, rfl⟩ := Int.eq_ofNat_of_zero_le x0
    exact ⟨_, 0, j, [], rfl, rfl, by simp; omega, H1⟩
  case round =>
    clear H1
    obtain ⟨g, c, m, L, rfl, rfl, hm, H2⟩ := hrel
    by_cases h0 : m = 0
    · subst h0
      go_wp2
      go_ret
      exact ⟨g, c, L, rfl, by omega, H2.out⟩
    · have hm1 : (0 : Int) < m := by omega
      go_wp2_with fail
      refine (drawRule hc _ H2.out.cur).mono ?_
      rintro e w3 ⟨⟨r, rfl⟩, c3, k3⟩
      have H3 : Hid (DrLU W bc ac len0 cap w (.slice (some ⟨g, 0, none⟩) L.length c) L w3) := H2.out.draw c3 k3
      clear c3 k3 H2
      have CK := fun w => specRule r w
      unfold Ru.val at CK
      unfold Ru.val
      have CK' : Hid _ := CK
      clear CK
      go_wp2_with fail
      refine (CK'.out _).mono ?_
      rintro e w5 ⟨rfl, hw5⟩
      have H5 : Hid (DrLU W bc ac len0 cap w (.slice (some ⟨g, 0, none⟩) L.length c) L w5 ∧ Boxed w5 w3.heap.size #[.int .i64 r.id, .int .i64 r.prio, .int .i64 r.snet, .int .i64 r.sbits, .int .i64 r.dnet, .int .i64 r.dbits, .int .i64 r.proto, .int .i64 r.low, .int .i64 r.high, .int .i64 r.cls] 32) := by rw [hw5]; exact ⟨(H3.out.more _).more _, (Boxed.new w3 _ _).more _⟩
      clear hw5 H3 CK'
      have hcap := H5.out.1.row.cap
      generalize w3.heap.size = B at H5 ⊢
      cases hok : r.ok
      · go_wp2
        go_roundw
        case rel => exact ⟨g, c, m - 1, L, rfl, by rw [show ((m - 1 : Nat) : Int) = (m : Int) - 1 by omega], by omega, H5.out.1⟩
        case measure => simp [intOf]; omega
      · clear hok
        obtain ⟨len, hlen⟩ : ∃ n, L.length = n := ⟨_, rfl⟩
        have Hlen : Hid (L.length = len) := hlen
        rw [hlen] at H5 hcap hm ⊢
        clear hlen
        have H6 : Hid (DrLU W bc ac len0 cap w (.slice (some ⟨g, 0, none⟩) L.length c) L w5) := by rw [Hlen.out]; exact H5.out.1
        go_wp2_with fail
        go_loopw [6] (fun i wr => ∃ k : Nat, k ≤ len ∧ i = .int .i64 k ∧ Hid (Below w5.heap.size w5 wr)) (fun i _ => len - (intOf i).toNat)
        case atStart => exact ⟨0, Nat.zero_le _, rfl, Below.refl _ _⟩
        case round =>
          obtain ⟨k, hk, rfl, HB⟩ := hrel
          haveI : Nonempty (BelW wr.heap.size wr) := ⟨⟨wr, Below.refl _ _⟩⟩
          have f0 : ∀ p : BelW wr.heap.size wr, p.w'.cell? ⟨B, 0, none⟩ = some (.int .i64 r.id) := fun p => (H5.out.2.below H5.out.2.under (HB.out.trans (p.h.mono HB.out.size))).cell 0 rfl
          by_cases hkl : k < len
          · have hkl' : (k : Int) < (len : Int) := by omega
            have g0 : ∀ p : BelW wr.heap.size wr, p.w'.cell? ⟨g, k * 10, none⟩ = some (.int .i64 (ruAt L k).id) := fun p => by
              have := ((H5.out.1.row.at'.below (HB.out.trans (p.h.mono HB.out.size))).cells (k := k) (by rw [Hlen.out]; exact hkl)).1
              simpa using this
            have G0 : Hid (∀ w', Below w5.heap.size w5 w' → w'.cell? ⟨g, k * 10, none⟩ = some (.int .i64 (ruAt L k).id)) := fun w' hb => by
              have := ((H5.out.1.row.at'.below hb).cells (k := k) (by rw [Hlen.out]; exact hkl)).1
              simpa using this
            generalize (ruAt L k).id = y at g0 G0
            by_cases hy : y < r.id
            · go_wp2
              refine region_below wr.heap.size (by kernel_rfl) (by kernel_rfl) ?_
              repeat (go_big_quiet_step (fail))
              refine wpQuiet_nil ?_
              intro wo hx
              have hq := BelW.out hx
              have HBo : Hid (Below w5.heap.size w5 wo) := HB.out.trans (hq.mono HB.out.size)
              clear hx hq
              clear f0 g0
              go_wp2
              go_roundw
              case rel => exact ⟨k + 1, by omega, by go_num, HBo⟩
              case measure => simp [intOf]; omega
            · have hd1 : decide (y < r.id) = false := by simp; omega
              go_wp2
              refine region_below wr.heap.size (by kernel_rfl) (by kernel_rfl) ?_
              repeat (go_big_quiet_step (fail))
              refine wpQuiet_nil ?_
              intro wo hx
              have hq := BelW.out hx
              have HBo : Hid (Below w5.heap.size w5 wo) := HB.out.trans (hq.mono HB.out.size)
              clear hx hq
              clear f0 g0
              go_wp2_with fail
              haveI : Nonempty (BelW wo.heap.size wo) := ⟨⟨wo, Below.refl _ _⟩⟩
              have f0 : ∀ p : BelW wo.heap.size wo, p.w'.cell? ⟨B, 0, none⟩ = some (.int .i64 r.id) := fun p => (H5.out.2.below H5.out.2.under (HBo.out.trans (p.h.mono HBo.out.size))).cell 0 rfl
              have g0 : ∀ p : BelW wo.heap.size wo, p.w'.cell? ⟨g, k * 10, none⟩ = some (.int .i64 y) := fun p => G0.out _ (HBo.out.trans (p.h.mono HBo.out.size))
              by_cases hye : y = r.id
              · have hd2 : (y == r.id) = true := by rw [beq_iff_eq]; exact hye
                refine region_below wo.heap.size (by kernel_rfl) (by kernel_rfl) ?_
                repeat (go_big_quiet_step (fail))
                refine wpQuiet_nil ?_
                intro wq hx
                have hq := BelW.out hx
                have HB2 : Hid (Below w5.heap.size w5 wq) := HBo.out.trans (hq.mono HBo.out.size)
                clear hx hq
                clear f0 g0
                go_wp2
                go_roundw
                case rel => exact ⟨g, c, m - 1, L, by rw [Hlen.out], by rw [show ((m - 1 : Nat) : Int) = (m : Int) - 1 by omega], by rw [Hlen.out]; omega, H6.out.below HB2.out⟩
                case measure => simp [intOf]; omega
              · have hd2 : (y == r.id) = false := by rw [beq_eq_false_iff_ne]; exact hye
                refine region_below wo.heap.size (by kernel_rfl) (by kernel_rfl) ?_
                repeat (go_big_quiet_step (fail))
                refine wpQuiet_nil ?_
                intro wq hx
                have hq := BelW.out hx
                have HB2 : Hid (Below w5.heap.size w5 wq) := HBo.out.trans (hq.mono HBo.out.size)
                clear hx hq
                clear f0 g0 HBo HB
                have Hm : Hid ((L.drop k).length = len - k) := by show (L.drop k).length = len - k; rw [List.length_drop, Hlen.out]
                have HM : Hid (RusAt wq (some ⟨g, k * 10, none⟩) (L.drop k)) := by
                  have := rus_drop (H5.out.1.row.at'.below HB2.out) k
                  show RusAt _ _ _
                  simpa using this
                have hck : (c = k) = False := by simp; omega
                go_wp2_with (at_builtin; refine ru_app rfl (.tmp 50) (.tmp 53) rfl wq.heap.size _ [] _ _ _ (L.drop k) Hm.out rfl rfl (ru_built wq _ (Nat.le_refl _)) (HM.out.alloc _) (by simp) (by rw [Hm.out]; simp; omega) (by simp) ?_)
                intro v2 w2 r2 b2 gr2 n2
                clear gr2
                have B1 : Below wq.heap.size wq w2 := ((Below.refl _ wq).alloc (Nat.le_refl _) _).trans b2
                have B2 : Below w5.heap.size w5 w2 := HB2.out.trans (B1.mono HB2.out.size)
                obtain ⟨g2, c2, hv2⟩ := r2.some (fun e => by have := n2 e; cases this)
                have hr2 : RusAt w2 (some ⟨g2, 0, none⟩) (L.drop k) := by rw [hv2] at r2; exact r2.at
                have hv2' : v2 = .slice (some ⟨g2, 0, none⟩) (len - k) c2 := by rw [hv2]; show Value.slice _ (L.drop k).length _ = _; rw [Hm.out]
                have H2 : Hid (RusAt w2 (some ⟨g, 0, none⟩) L ∧ Boxed w2 B #[.int .i64 r.id, .int .i64 r.prio, .int .i64 r.snet, .int .i64 r.sbits, .int .i64 r.dnet, .int .i64 r.dbits, .int .i64 r.proto, .int .i64 r.low, .int .i64 r.high, .int .i64 r.cls] 32 ∧ RusAt w2 (some ⟨g2, 0, none⟩) (L.drop k) ∧ DrLU W bc ac len0 cap w (.slice (some ⟨g, 0, none⟩) len c) L w2) :=
                  ⟨H5.out.1.row.at'.below B2, H5.out.2.below H5.out.2.under B2, hr2, H5.out.1.below B2⟩
                subst hv2'
                clear r2 b2 n2 B1 B2 hv2 hr2 HM HB2
                go_wp2_with fail
                have hl1 : (L.take k).length = k := by rw [List.length_take, Hlen.out]; omega
                have hkc : k ≤ c := by omega
                refine region_all2 (by kernel_rfl) (by kernel_rfl) (by kernel_rfl) upUse (fun x => Below w2.heap.size w2 x) (upR w2.heap.size) (upPr w2.heap.size w2 (.slice (some ⟨g, 0, none⟩) len c) (.slice (some ⟨g2, 0, none⟩) (len - k) c2) r L k) ?hR ?h0 ?step ?last
                case hR =>
                  intro i j x x' v _ hjs hij hu h1 h2 hp hr
                  have same : ∀ l, i ≠ 4 → i ≠ 7 → i ≠ 9 → RuRow w2.heap.size x v l → RuRow w2.heap.size x' v l := by
                    intro l h4 h7 h9 hrow
                    unfold upR at hr
                    rw [if_neg h4, if_neg (by omega)] at hr
                    rcases hr with rfl | ⟨o, rfl⟩
                    · exact hrow
                    · exact hrow.alloc _
                  by_cases hj0 : j = 0
                  · subst hj0
                    by_cases hi4 : i = 4
                    · subst hi4; exact absurd rfl hu
                    by_cases hi7 : i = 7
                    · subst hi7; exact no_so h2 (by kernel_rfl)
                    by_cases hi9 : i = 9
                    · subst hi9; exact no_so h2 (by kernel_rfl)
                    exact ⟨same _ hi4 hi7 hi9 hp.1, hp.2⟩
                  by_cases hj4 : j = 4
                  · subst hj4
                    by_cases hi7 : i = 7
                    · subst hi7; exact absurd rfl hu
                    by_cases hi9 : i = 9
                    · subst hi9; exact no_so h2 (by kernel_rfl)
                    exact ⟨same _ (by omega) hi7 hi9 hp.1, hp.2⟩
                  by_cases hj6 : j = 6
                  · subst hj6
                    obtain ⟨b, e, hbx⟩ : ∃ b, v = .slice (some ⟨b, 0, none⟩) 1 1 ∧ Boxed x b #[.int .i64 r.id, .int .i64 r.prio, .int .i64 r.snet, .int .i64 r.sbits, .int .i64 r.dnet, .int .i64 r.dbits, .int .i64 r.proto, .int .i64 r.low, .int .i64 r.high, .int .i64 r.cls] 32 := hp
                    by_cases hi7 : i = 7
                    · subst hi7; exact absurd rfl hu
                    by_cases hi9 : i = 9
                    · subst hi9; exact no_so h2 (by kernel_rfl)
                    by_cases hi4 : i = 4
                    · subst hi4
                      refine ⟨b, e, ?_⟩
                      have hh : ∀ k, k < x.heap.size → x.heap[k]? ≠ some (.cells #[] 32) → x'.heap[k]? = x.heap[k]? := hr
                      unfold Boxed at hbx ⊢
                      rw [hh b (heapLt hbx) (by rw [hbx]; simp)]
                      exact hbx
                    unfold upR at hr
                    rw [if_neg hi4, if_neg (by omega)] at hr
                    rcases hr with rfl | ⟨o, rfl⟩
                    · exact ⟨b, e, hbx⟩
                    · exact ⟨b, e, hbx.more _⟩
                  by_cases hj7 : j = 7
                  · subst hj7
                    by_cases hi4 : i = 4
                    · subst hi4; exact no_so h1 (by kernel_rfl)
                    by_cases hi9 : i = 9
                    · subst hi9; exact absurd rfl hu
                    exact ⟨same _ hi4 (by omega) hi9 hp.1, hp.2⟩
                  by_cases hj9 : j = 9
                  · subst hj9
                    by_cases hi4 : i = 4
                    · subst hi4; exact no_so h1 (by kernel_rfl)
                    by_cases hi7 : i = 7
                    · subst hi7; exact no_so h1 (by kernel_rfl)
                    exact ⟨same _ hi4 hi7 (by omega) hp.1, hp.2⟩
                  by_cases hj10 : j = 10
                  · subst hj10
                    by_cases hi4 : i = 4
                    · subst hi4; exact no_so h1 (by kernel_rfl)
                    by_cases hi7 : i = 7
                    · subst hi7; exact no_so h1 (by kernel_rfl)
                    by_cases hi9 : i = 9
                    · subst hi9; exact no_so h1 (by kernel_rfl)
                    exact ⟨same _ hi4 hi7 hi9 hp.1, hp.2⟩
                  have hj11 : j < 11 := hjs
                  have hjc : j = 1 ∨ j = 2 ∨ j = 3 ∨ j = 5 ∨ j = 8 := by omega
                  rcases hjc with rfl | rfl | rfl | rfl | rfl
                  · exact hp
                  · exact hp
                  · exact hp
                  · exact hp
                  · exact hp
                case h0 => exact (Below.refl _ _).drew
                case step =>
                  intro i o hi ho a x hkp hst hI hp
                  skip
                  have t6 : a.tmps.getD 6 undef = .int .i64 (k : Int) := hkp.slot 6 (by kernel_rfl)
                  have t7 : a.tmps.getD 7 undef = .slice (some ⟨g2, 0, none⟩) (len - k) c2 := hkp.slot 7 (by kernel_rfl)
                  have t3 : a.tmps.getD 5 undef = .pointer (some ⟨B, 0, none⟩) := hkp.slot 5 (by kernel_rfl)
                  have t3' : a.tmps[5]?.getD undef = .pointer (some ⟨B, 0, none⟩) := by simpa using t3
                  have hX := H2.out.2.1.below H2.out.2.1.under hI
                  have d0 : x.cell? ⟨B, 0, none⟩ = some (.int .i64 r.id) := hX.cell 0 rfl
                  have d1 : x.cell? ⟨B, 1, none⟩ = some (.int .i64 r.prio) := hX.cell 1 rfl
                  have d2 : x.cell? ⟨B, 2, none⟩ = some (.int .i64 r.snet) := hX.cell 2 rfl
                  have d3 : x.cell? ⟨B, 3, none⟩ = some (.int .i64 r.sbits) := hX.cell 3 rfl
                  have d4 : x.cell? ⟨B, 4, none⟩ = some (.int .i64 r.dnet) := hX.cell 4 rfl
                  have d5 : x.cell? ⟨B, 5, none⟩ = some (.int .i64 r.dbits) := hX.cell 5 rfl
                  have d6 : x.cell? ⟨B, 6, none⟩ = some (.int .i64 r.proto) := hX.cell 6 rfl
                  have d7 : x.cell? ⟨B, 7, none⟩ = some (.int .i64 r.low) := hX.cell 7 rfl
                  have d8 : x.cell? ⟨B, 8, none⟩ = some (.int .i64 r.high) := hX.cell 8 rfl
                  have d9 : x.cell? ⟨B, 9, none⟩ = some (.int .i64 r.cls) := hX.cell 9 rfl
                  have hcases : i = 0 ∨ i = 1 ∨ i = 2 ∨ i = 3 ∨ i = 4 ∨ i = 5 ∨ i = 6 ∨ i = 7 ∨ i = 8 ∨ i = 9 ∨ i = 10 := by
                    have : i < 11 := hi
                    omega
                  rcases hcases with rfl | rfl | rfl | rfl | rfl | rfl | rfl | rfl | rfl | rfl | rfl
                  · cases ho
                    refine ⟨rfl, ?_⟩
                    unfold Oper.wp
                    simp [go_sem]
                    exact ⟨_, rfl, .inr ⟨_, rfl⟩, hI.alloc hI.size _, ru_built x _ hI.size, _, rfl⟩
                  · cases ho
                    exact ⟨rfl, op_move 3 rfl ⟨_, rfl, .inl rfl, hI, hst 3 (by kernel_rfl)⟩⟩
                  · cases ho
                    exact ⟨rfl, op_move 6 rfl ⟨_, rfl, .inl rfl, hI, t6⟩⟩
                  · cases ho
                    have e1 : a.tmps[56]?.getD undef = .slice (some ⟨g, 0, none⟩) len c := by simpa [upPr] using hp 1 56 (by decide) (.inr (by decide)) rfl
                    have e2 : a.tmps[57]?.getD undef = .int .i64 (k : Int) := by simpa [upPr] using hp 2 57 (by decide) (.inr (by decide)) rfl
                    refine ⟨rfl, ?_⟩
                    unfold Oper.wp
                    simp [go_sem, e1, e2, hkc]
                    exact ⟨_, rfl, .inl rfl, hI, some ⟨g, 0, none⟩, c, rfl, by simp, rus_take H2.out.1 k⟩
                  · cases ho
                    obtain ⟨r0, g0, eg0⟩ : RuRow w2.heap.size x (a.tmps.getD 55 undef) [] ∧ ∃ g0, a.tmps.getD 55 undef = .slice (some ⟨g0, 0, none⟩) 0 0 := hp 0 55 (by decide) (.inl rfl) rfl
                    obtain ⟨sa, sc, es, hne, er⟩ : ∃ sa sc, a.tmps.getD 58 undef = .slice sa k sc ∧ sa ≠ none ∧ RusAt w2 sa (L.take k) := hp 3 58 (by decide) (.inr (by decide)) rfl
                    refine ⟨rfl, ru_op_app (.tmp 55) (.tmp 58) rfl w2.heap.size _ [] sa k sc (L.take k) hl1 rfl es r0 (er.below hI) (fun e => absurd e hne) (by rw [hl1]; simp; omega) hI.size fun v' w' hr hb hgr hnil => ⟨_, rfl, ?_, hI.trans hb, hr, ?_⟩⟩
                    · show ∀ q, q < x.heap.size → x.heap[q]? ≠ some (.cells #[] 32) → w'.heap[q]? = x.heap[q]?
                      intro q hq hne2
                      refine hgr.block q hq fun e => ?_
                      rw [show a.eval (.tmp 55) = a.tmps.getD 55 undef from rfl, eg0] at e
                      obtain rfl : q = g0 := by simpa [Value.ownBlock] using e
                      rw [eg0] at r0
                      exact hne2 (ru_row_empty r0)
                    · intro e
                      have := hnil e
                      rw [show a.eval (.tmp 55) = a.tmps.getD 55 undef from rfl, eg0] at this
                      cases this
                  · cases ho
                    refine ⟨rfl, ?_⟩
                    unfold Oper.wp
                    simp [go_sem, t3', d0, d1, d2, d3, d4, d5, d6, d7, d8, d9]
                    exact ⟨_, rfl, .inl rfl, hI, rfl⟩
                  · cases ho
                    have e1 : a.tmps[60]?.getD undef = .agg #[.int .i64 r.id, .int .i64 r.prio, .int .i64 r.snet, .int .i64 r.sbits, .int .i64 r.dnet, .int .i64 r.dbits, .int .i64 r.proto, .int .i64 r.low, .int .i64 r.high, .int .i64 r.cls] := by simpa [upPr, Ru.val] using hp 5 60 (by decide) (.inr (by decide)) rfl
                    refine ⟨rfl, ?_⟩
                    unfold Oper.wp
                    simp [go_sem, e1]
                    exact ⟨_, rfl, .inr ⟨_, rfl⟩, hI.alloc hI.size _, _, rfl, Boxed.new x _ _⟩
                  · cases ho
                    obtain ⟨r4, n4⟩ : RuRow w2.heap.size x (a.tmps.getD 59 undef) (L.take k) ∧ a.tmps.getD 59 undef ≠ .slice none 0 0 := hp 4 59 (by decide) (.inl rfl) rfl
                    obtain ⟨b6, e6, hbx⟩ : ∃ b, a.tmps.getD 61 undef = .slice (some ⟨b, 0, none⟩) 1 1 ∧ Boxed x b #[.int .i64 r.id, .int .i64 r.prio, .int .i64 r.snet, .int .i64 r.sbits, .int .i64 r.dnet, .int .i64 r.dbits, .int .i64 r.proto, .int .i64 r.low, .int .i64 r.high, .int .i64 r.cls] 32 := hp 6 61 (by decide) (.inl rfl) rfl
                    refine ⟨rfl, ru_op_app (.tmp 59) (.tmp 61) rfl w2.heap.size _ (L.take k) (some ⟨b6, 0, none⟩) 1 1 [r] rfl rfl e6 r4 (rus_of_box hbx) (by simp) (by rw [hl1]; simp; omega) hI.size fun v' w' hr hb _ hnil => ⟨_, rfl, ?_, hI.trans hb, hr, fun e => n4 (hnil e)⟩⟩
                    exact hb
                  · cases ho
                    exact ⟨rfl, op_move 7 rfl ⟨_, rfl, .inl rfl, hI, t7⟩⟩
                  · cases ho
                    obtain ⟨r7, n7⟩ : RuRow w2.heap.size x (a.tmps.getD 62 undef) (L.take k ++ [r]) ∧ a.tmps.getD 62 undef ≠ .slice none 0 0 := hp 7 62 (by decide) (.inl rfl) rfl
                    have e8 : a.tmps.getD 63 undef = .slice (some ⟨g2, 0, none⟩) (len - k) c2 := hp 8 63 (by decide) (.inr (by decide)) rfl
                    refine ⟨rfl, ru_op_app (.tmp 62) (.tmp 63) rfl w2.heap.size _ (L.take k ++ [r]) (some ⟨g2, 0, none⟩) (len - k) c2 (L.drop k) Hm.out rfl e8 r7 (H2.out.2.2.1.below hI) (by simp) (by rw [List.length_append, hl1, Hm.out]; simp; omega) hI.size fun v' w' hr hb _ hnil => ⟨_, rfl, ?_, hI.trans hb, hr, fun e => n7 (hnil e)⟩⟩
                    exact hb
                  · cases ho
                    have r9 : RuRow w2.heap.size x (a.tmps.getD 64 undef) (L.take k ++ [r] ++ L.drop k) ∧ a.tmps.getD 64 undef ≠ .slice none 0 0 := hp 9 64 (by decide) (.inr (by decide)) rfl
                    refine ⟨rfl, ?_⟩
                    unfold Oper.wp
                    simp [execOp, Act.eval, Oper.upon]
                    exact ⟨_, rfl, .inl rfl, hI, (show RuRow w2.heap.size x _ (L.take k ++ [r] ++ L.drop k) ∧ _ ≠ Value.slice none 0 0 from by simpa using r9)⟩
                case last =>
                  intro a x hkp hI hp
                  obtain ⟨r10, n10⟩ : RuRow w2.heap.size x (a.tmps.getD 3 undef) (L.take k ++ [r] ++ L.drop k) ∧ a.tmps.getD 3 undef ≠ .slice none 0 0 := hp 10 3 (by decide) rfl
                  obtain ⟨g9, c9, e9⟩ := r10.some n10
                  have hl9 : (L.take k ++ [r] ++ L.drop k).length = len + 1 := by simp only [List.length_append, hl1, Hm.out, List.length_singleton] <;> omega
                  rw [e9] at r10
                  have HE : Hid (DrLU W bc ac len0 cap w (.slice (some ⟨g9, 0, none⟩) (L.take k ++ [r] ++ L.drop k).length c9) (L.take k ++ [r] ++ L.drop k) x) := H2.out.2.2.2.grow (hI.mono H2.out.2.2.2.kp.size) (r10.mono H2.out.2.2.2.kp.size)
                  have ha := hkp.pick [true, true, true, false, true, true, true, true, true, true, true, true, true, true, true, true, true, true, true, true, true, true, true, true, true, true, true, true, true, true, true, true, true, true, true, true, true, true, true, true, true, true, true, true, true, true, true, true, true, true, true, true, true, true, true, false, false, false, false, false, false, false, false, false, false, true] (by kernel_rfl)
                  simp only [pickS] at ha
                  rw [e9] at ha
                  clear hp hkp r10 n10 hI e9 H2
                  generalize a.tmps.getD 55 undef = y55 at ha
                  generalize a.tmps.getD 56 undef = y56 at ha
                  generalize a.tmps.getD 57 undef = y57 at ha
                  generalize a.tmps.getD 58 undef = y58 at ha
                  generalize a.tmps.getD 59 undef = y59 at ha
                  generalize a.tmps.getD 60 undef = y60 at ha
                  generalize a.tmps.getD 61 undef = y61 at ha
                  generalize a.tmps.getD 62 undef = y62 at ha
                  generalize a.tmps.getD 63 undef = y63 at ha
                  generalize a.tmps.getD 64 undef = y64 at ha
                  rw [ha]
                  clear ha
                  obtain ⟨L9, hL9⟩ : ∃ L9, L.take k ++ [r] ++ L.drop k = L9 := ⟨_, rfl⟩
                  rw [hL9] at HE hl9 ⊢
                  clear hL9
                  go_wp2
                  go_roundw
                  case rel => exact ⟨g9, c9, m - 1, L9, rfl, by rw [show ((m - 1 : Nat) : Int) = (m : Int) - 1 by omega], by omega, HE⟩
                  case measure => simp [intOf]; omega
          · obtain rfl : k = len := by omega
            have hkl' : ¬ (k : Int) < (k : Int) := by omega
            go_wp2
            refine region_below wr.heap.size (by kernel_rfl) (by kernel_rfl) ?_
            repeat (go_big_quiet_step (fail))
            refine wpQuiet_nil ?_
            intro wo hx
            have hq := BelW.out hx
            have HBo : Hid (Below w5.heap.size w5 wo) := HB.out.trans (hq.mono HB.out.size)
            clear hx hq
            clear f0
            go_wp2_with fail
            haveI : Nonempty (BelW wo.heap.size wo) := ⟨⟨wo, Below.refl _ _⟩⟩
            refine region_below wo.heap.size (by kernel_rfl) (by kernel_rfl) ?_
            repeat (go_big_quiet_step (fail))
            refine wpQuiet_nil ?_
            intro wq hx
            have hq := BelW.out hx
            have HB2 : Hid (Below w5.heap.size w5 wq) := HBo.out.trans (hq.mono HBo.out.size)
            clear hx hq
            clear HBo HB
            by_cases hck : c = k
            · skip
              have Hm : Hid ((L.drop k).length = 0) := by show (L.drop k).length = 0; rw [List.length_drop, Hlen.out]; omega
              have HM : Hid (RusAt wq (some ⟨g, 0, none⟩) (L.drop k)) := by
                rw [List.drop_of_length_le (by rw [Hlen.out]; omega)]
                exact RusAt.nil _ _
              have hck2 : (c = k) = True := by simp [hck]
              have B2 : Below w5.heap.size w5 (wq.alloc (.cells #[] 32)) := HB2.out.alloc HB2.out.size _
              have H2 : Hid (RusAt (wq.alloc (.cells #[] 32)) (some ⟨g, 0, none⟩) L ∧ Boxed (wq.alloc (.cells #[] 32)) B #[.int .i64 r.id, .int .i64 r.prio, .int .i64 r.snet, .int .i64 r.sbits, .int .i64 r.dnet, .int .i64 r.dbits, .int .i64 r.proto, .int .i64 r.low, .int .i64 r.high, .int .i64 r.cls] 32 ∧ RusAt (wq.alloc (.cells #[] 32)) (some ⟨wq.heap.size, 0, none⟩) (L.drop k) ∧ DrLU W bc ac len0 cap w (.slice (some ⟨g, 0, none⟩) k c) L (wq.alloc (.cells #[] 32))) :=
                ⟨H5.out.1.row.at'.below B2, H5.out.2.below H5.out.2.under B2, by rw [List.drop_of_length_le (by rw [Hlen.out]; omega)]; exact RusAt.nil _ _, H5.out.1.below B2⟩
              clear B2 HM HB2
              go_wp2_with fail
              obtain ⟨g2, hg2⟩ : ∃ g2, wq.heap.size = g2 := ⟨_, rfl⟩
              rw [hg2] at H2 ⊢
              generalize wq.alloc (.cells #[] 32) = w2 at H2 ⊢
              clear hg2
              have hl1 : (L.take k).length = k := by rw [List.length_take, Hlen.out]; omega
              have hkc : k ≤ c := by omega
              refine region_all2 (by kernel_rfl) (by kernel_rfl) (by kernel_rfl) upUse (fun x => Below w2.heap.size w2 x) (upR w2.heap.size) (upPr w2.heap.size w2 (.slice (some ⟨g, 0, none⟩) k c) (.slice (some ⟨g2, 0, none⟩) 0 0) r L k) ?hR ?h0 ?step ?last
              case hR =>
                intro i j x x' v _ hjs hij hu h1 h2 hp hr
                have same : ∀ l, i ≠ 4 → i ≠ 7 → i ≠ 9 → RuRow w2.heap.size x v l → RuRow w2.heap.size x' v l := by
                  intro l h4 h7 h9 hrow
                  unfold upR at hr
                  rw [if_neg h4, if_neg (by omega)] at hr
                  rcases hr with rfl | ⟨o, rfl⟩
                  · exact hrow
                  · exact hrow.alloc _
                by_cases hj0 : j = 0
                · subst hj0
                  by_cases hi4 : i = 4
                  · subst hi4; exact absurd rfl hu
                  by_cases hi7 : i = 7
                  · subst hi7; exact no_so h2 (by kernel_rfl)
                  by_cases hi9 : i = 9
                  · subst hi9; exact no_so h2 (by kernel_rfl)
                  exact ⟨same _ hi4 hi7 hi9 hp.1, hp.2⟩
                by_cases hj4 : j = 4
                · subst hj4
                  by_cases hi7 : i = 7
                  · subst hi7; exact absurd rfl hu
                  by_cases hi9 : i = 9
                  · subst hi9; exact no_so h2 (by kernel_rfl)
                  exact ⟨same _ (by omega) hi7 hi9 hp.1, hp.2⟩
                by_cases hj6 : j = 6
                · subst hj6
                  obtain ⟨b, e, hbx⟩ : ∃ b, v = .slice (some ⟨b, 0, none⟩) 1 1 ∧ Boxed x b #[.int .i64 r.id, .int .i64 r.prio, .int .i64 r.snet, .int .i64 r.sbits, .int .i64 r.dnet, .int .i64 r.dbits, .int .i64 r.proto, .int .i64 r.low, .int .i64 r.high, .int .i64 r.cls] 32 := hp
                  by_cases hi7 : i = 7
                  · subst hi7; exact absurd rfl hu
                  by_cases hi9 : i = 9
                  · subst hi9; exact no_so h2 (by kernel_rfl)
                  by_cases hi4 : i = 4
                  · subst hi4
                    refine ⟨b, e, ?_⟩
                    have hh : ∀ k, k < x.heap.size → x.heap[k]? ≠ some (.cells #[] 32) → x'.heap[k]? = x.heap[k]? := hr
                    unfold Boxed at hbx ⊢
                    rw [hh b (heapLt hbx) (by rw [hbx]; simp)]
                    exact hbx
                  unfold upR at hr
                  rw [if_neg hi4, if_neg (by omega)] at hr
                  rcases hr with rfl | ⟨o, rfl⟩
                  · exact ⟨b, e, hbx⟩
                  · exact ⟨b, e, hbx.more _⟩
                by_cases hj7 : j = 7
                · subst hj7
                  by_cases hi4 : i = 4
                  · subst hi4; exact no_so h1 (by kernel_rfl)
                  by_cases hi9 : i = 9
                  · subst hi9; exact absurd rfl hu
                  exact ⟨same _ hi4 (by omega) hi9 hp.1, hp.2⟩
                by_cases hj9 : j = 9
                · subst hj9
                  by_cases hi4 : i = 4
                  · subst hi4; exact no_so h1 (by kernel_rfl)
                  by_cases hi7 : i = 7
                  · subst hi7; exact no_so h1 (by kernel_rfl)
                  exact ⟨same _ hi4 hi7 (by omega) hp.1, hp.2⟩
                by_cases hj10 : j = 10
                · subst hj10
                  by_cases hi4 : i = 4
                  · subst hi4; exact no_so h1 (by kernel_rfl)
                  by_cases hi7 : i = 7
                  · subst hi7; exact no_so h1 (by kernel_rfl)
                  by_cases hi9 : i = 9
                  · subst hi9; exact no_so h1 (by kernel_rfl)
                  exact ⟨same _ hi4 hi7 hi9 hp.1, hp.2⟩
                have hj11 : j < 11 := hjs
                have hjc : j = 1 ∨ j = 2 ∨ j = 3 ∨ j = 5 ∨ j = 8 := by omega
                rcases hjc with rfl | rfl | rfl | rfl | rfl
                · exact hp
                · exact hp
                · exact hp
                · exact hp
                · exact hp
              case h0 => exact (Below.refl _ _).drew
              case step =>
                intro i o hi ho a x hkp hst hI hp
                skip
                have t6 : a.tmps.getD 6 undef = .int .i64 (k : Int) := hkp.slot 6 (by kernel_rfl)
                have t7 : a.tmps.getD 7 undef = .slice (some ⟨g2, 0, none⟩) 0 0 := hkp.slot 7 (by kernel_rfl)
                have t3 : a.tmps.getD 5 undef = .pointer (some ⟨B, 0, none⟩) := hkp.slot 5 (by kernel_rfl)
                have t3' : a.tmps[5]?.getD undef = .pointer (some ⟨B, 0, none⟩) := by simpa using t3
                have hX := H2.out.2.1.below H2.out.2.1.under hI
                have d0 : x.cell? ⟨B, 0, none⟩ = some (.int .i64 r.id) := hX.cell 0 rfl
                have d1 : x.cell? ⟨B, 1, none⟩ = some (.int .i64 r.prio) := hX.cell 1 rfl
                have d2 : x.cell? ⟨B, 2, none⟩ = some (.int .i64 r.snet) := hX.cell 2 rfl
                have d3 : x.cell? ⟨B, 3, none⟩ = some (.int .i64 r.sbits) := hX.cell 3 rfl
                have d4 : x.cell? ⟨B, 4, none⟩ = some (.int .i64 r.dnet) := hX.cell 4 rfl
                have d5 : x.cell? ⟨B, 5, none⟩ = some (.int .i64 r.dbits) := hX.cell 5 rfl
                have d6 : x.cell? ⟨B, 6, none⟩ = some (.int .i64 r.proto) := hX.cell 6 rfl
                have d7 : x.cell? ⟨B, 7, none⟩ = some (.int .i64 r.low) := hX.cell 7 rfl
                have d8 : x.cell? ⟨B, 8, none⟩ = some (.int .i64 r.high) := hX.cell 8 rfl
                have d9 : x.cell? ⟨B, 9, none⟩ = some (.int .i64 r.cls) := hX.cell 9 rfl
                have hcases : i = 0 ∨ i = 1 ∨ i = 2 ∨ i = 3 ∨ i = 4 ∨ i = 5 ∨ i = 6 ∨ i = 7 ∨ i = 8 ∨ i = 9 ∨ i = 10 := by
                  have : i < 11 := hi
                  omega
                rcases hcases with rfl | rfl | rfl | rfl | rfl | rfl | rfl | rfl | rfl | rfl | rfl
                · cases ho
                  refine ⟨rfl, ?_⟩
                  unfold Oper.wp
                  simp [go_sem]
                  exact ⟨_, rfl, .inr ⟨_, rfl⟩, hI.alloc hI.size _, ru_built x _ hI.size, _, rfl⟩
                · cases ho
                  exact ⟨rfl, op_move 3 rfl ⟨_, rfl, .inl rfl, hI, hst 3 (by kernel_rfl)⟩⟩
                · cases ho
                  exact ⟨rfl, op_move 6 rfl ⟨_, rfl, .inl rfl, hI, t6⟩⟩
                · cases ho
                  have e1 : a.tmps[56]?.getD undef = .slice (some ⟨g, 0, none⟩) k c := by simpa [upPr] using hp 1 56 (by decide) (.inr (by decide)) rfl
                  have e2 : a.tmps[57]?.getD undef = .int .i64 (k : Int) := by simpa [upPr] using hp 2 57 (by decide) (.inr (by decide)) rfl
                  refine ⟨rfl, ?_⟩
                  unfold Oper.wp
                  simp [go_sem, e1, e2, hkc]
                  exact ⟨_, rfl, .inl rfl, hI, some ⟨g, 0, none⟩, c, rfl, by simp, rus_take H2.out.1 k⟩
                · cases ho
                  obtain ⟨r0, g0, eg0⟩ : RuRow w2.heap.size x (a.tmps.getD 55 undef) [] ∧ ∃ g0, a.tmps.getD 55 undef = .slice (some ⟨g0, 0, none⟩) 0 0 := hp 0 55 (by decide) (.inl rfl) rfl
                  obtain ⟨sa, sc, es, hne, er⟩ : ∃ sa sc, a.tmps.getD 58 undef = .slice sa k sc ∧ sa ≠ none ∧ RusAt w2 sa (L.take k) := hp 3 58 (by decide) (.inr (by decide)) rfl
                  refine ⟨rfl, ru_op_app (.tmp 55) (.tmp 58) rfl w2.heap.size _ [] sa k sc (L.take k) hl1 rfl es r0 (er.below hI) (fun e => absurd e hne) (by rw [hl1]; simp; omega) hI.size fun v' w' hr hb hgr hnil => ⟨_, rfl, ?_, hI.trans hb, hr, ?_⟩⟩
                  · show ∀ q, q < x.heap.size → x.heap[q]? ≠ some (.cells #[] 32) → w'.heap[q]? = x.heap[q]?
                    intro q hq hne2
                    refine hgr.block q hq fun e => ?_
                    rw [show a.eval (.tmp 55) = a.tmps.getD 55 undef from rfl, eg0] at e
                    obtain rfl : q = g0 := by simpa [Value.ownBlock] using e
                    rw [eg0] at r0
                    exact hne2 (ru_row_empty r0)
                  · intro e
                    have := hnil e
                    rw [show a.eval (.tmp 55) = a.tmps.getD 55 undef from rfl, eg0] at this
                    cases this
                · cases ho
                  refine ⟨rfl, ?_⟩
                  unfold Oper.wp
                  simp [go_sem, t3', d0, d1, d2, d3, d4, d5, d6, d7, d8, d9]
                  exact ⟨_, rfl, .inl rfl, hI, rfl⟩
                · cases ho
                  have e1 : a.tmps[60]?.getD undef = .agg #[.int .i64 r.id, .int .i64 r.prio, .int .i64 r.snet, .int .i64 r.sbits, .int .i64 r.dnet, .int .i64 r.dbits, .int .i64 r.proto, .int .i64 r.low, .int .i64 r.high, .int .i64 r.cls] := by simpa [upPr, Ru.val] using hp 5 60 (by decide) (.inr (by decide)) rfl
                  refine ⟨rfl, ?_⟩
                  unfold Oper.wp
                  simp [go_sem, e1]
                  exact ⟨_, rfl, .inr ⟨_, rfl⟩, hI.alloc hI.size _, _, rfl, Boxed.new x _ _⟩
                · cases ho
                  obtain ⟨r4, n4⟩ : RuRow w2.heap.size x (a.tmps.getD 59 undef) (L.take k) ∧ a.tmps.getD 59 undef ≠ .slice none 0 0 := hp 4 59 (by decide) (.inl rfl) rfl
                  obtain ⟨b6, e6, hbx⟩ : ∃ b, a.tmps.getD 61 undef = .slice (some ⟨b, 0, none⟩) 1 1 ∧ Boxed x b #[.int .i64 r.id, .int .i64 r.prio, .int .i64 r.snet, .int .i64 r.sbits, .int .i64 r.dnet, .int .i64 r.dbits, .int .i64 r.proto, .int .i64 r.low, .int .i64 r.high, .int .i64 r.cls] 32 := hp 6 61 (by decide) (.inl rfl) rfl
                  refine ⟨rfl, ru_op_app (.tmp 59) (.tmp 61) rfl w2.heap.size _ (L.take k) (some ⟨b6, 0, none⟩) 1 1 [r] rfl rfl e6 r4 (rus_of_box hbx) (by simp) (by rw [hl1]; simp; omega) hI.size fun v' w' hr hb _ hnil => ⟨_, rfl, ?_, hI.trans hb, hr, fun e => n4 (hnil e)⟩⟩
                  exact hb
                · cases ho
                  exact ⟨rfl, op_move 7 rfl ⟨_, rfl, .inl rfl, hI, t7⟩⟩
                · cases ho
                  obtain ⟨r7, n7⟩ : RuRow w2.heap.size x (a.tmps.getD 62 undef) (L.take k ++ [r]) ∧ a.tmps.getD 62 undef ≠ .slice none 0 0 := hp 7 62 (by decide) (.inl rfl) rfl
                  have e8 : a.tmps.getD 63 undef = .slice (some ⟨g2, 0, none⟩) 0 0 := hp 8 63 (by decide) (.inr (by decide)) rfl
                  refine ⟨rfl, ru_op_app (.tmp 62) (.tmp 63) rfl w2.heap.size _ (L.take k ++ [r]) (some ⟨g2, 0, none⟩) 0 0 (L.drop k) Hm.out rfl e8 r7 (H2.out.2.2.1.below hI) (by simp) (by rw [List.length_append, hl1, Hm.out]; simp; omega) hI.size fun v' w' hr hb _ hnil => ⟨_, rfl, ?_, hI.trans hb, hr, fun e => n7 (hnil e)⟩⟩
                  exact hb
                · cases ho
                  have r9 : RuRow w2.heap.size x (a.tmps.getD 64 undef) (L.take k ++ [r] ++ L.drop k) ∧ a.tmps.getD 64 undef ≠ .slice none 0 0 := hp 9 64 (by decide) (.inr (by decide)) rfl
                  refine ⟨rfl, ?_⟩
                  unfold Oper.wp
                  simp [execOp, Act.eval, Oper.upon]
                  exact ⟨_, rfl, .inl rfl, hI, (show RuRow w2.heap.size x _ (L.take k ++ [r] ++ L.drop k) ∧ _ ≠ Value.slice none 0 0 from by simpa using r9)⟩
              case last =>
                intro a x hkp hI hp
                obtain ⟨r10, n10⟩ : RuRow w2.heap.size x (a.tmps.getD 3 undef) (L.take k ++ [r] ++ L.drop k) ∧ a.tmps.getD 3 undef ≠ .slice none 0 0 := hp 10 3 (by decide) rfl
                obtain ⟨g9, c9, e9⟩ := r10.some n10
                have hl9 : (L.take k ++ [r] ++ L.drop k).length = k + 1 := by simp only [List.length_append, hl1, Hm.out, List.length_singleton] <;> omega
                rw [e9] at r10
                have HE : Hid (DrLU W bc ac len0 cap w (.slice (some ⟨g9, 0, none⟩) (L.take k ++ [r] ++ L.drop k).length c9) (L.take k ++ [r] ++ L.drop k) x) := H2.out.2.2.2.grow (hI.mono H2.out.2.2.2.kp.size) (r10.mono H2.out.2.2.2.kp.size)
                have ha := hkp.pick [true, true, true, false, true, true, true, true, true, true, true, true, true, true, true, true, true, true, true, true, true, true, true, true, true, true, true, true, true, true, true, true, true, true, true, true, true, true, true, true, true, true, true, true, true, true, true, true, true, true, true, true, true, true, true, false, false, false, false, false, false, false, false, false, false, true] (by kernel_rfl)
                simp only [pickS] at ha
                rw [e9] at ha
                clear hp hkp r10 n10 hI e9 H2
                generalize a.tmps.getD 55 undef = y55 at ha
                generalize a.tmps.getD 56 undef = y56 at ha
                generalize a.tmps.getD 57 undef = y57 at ha
                generalize a.tmps.getD 58 undef = y58 at ha
                generalize a.tmps.getD 59 undef = y59 at ha
                generalize a.tmps.getD 60 undef = y60 at ha
                generalize a.tmps.getD 61 undef = y61 at ha
                generalize a.tmps.getD 62 undef = y62 at ha
                generalize a.tmps.getD 63 undef = y63 at ha
                generalize a.tmps.getD 64 undef = y64 at ha
                rw [ha]
                clear ha
                obtain ⟨L9, hL9⟩ : ∃ L9, L.take k ++ [r] ++ L.drop k = L9 := ⟨_, rfl⟩
                rw [hL9] at HE hl9 ⊢
                clear hL9
                go_wp2
                go_roundw
                case rel => exact ⟨g9, c9, m - 1, L9, rfl, by rw [show ((m - 1 : Nat) : Int) = (m : Int) - 1 by omega], by omega, HE⟩
                case measure => simp [intOf]; omega
            · skip
              have Hm : Hid ((L.drop k).length = 0) := by show (L.drop k).length = 0; rw [List.length_drop, Hlen.out]; omega
              have HM : Hid (RusAt wq (some ⟨g, k * 10, none⟩) (L.drop k)) := by
                rw [List.drop_of_length_le (by rw [Hlen.out]; omega)]
                exact RusAt.nil _ _
              have hck2 : (c = k) = False := by simp [hck]
              have B2 : Below w5.heap.size w5 (wq.alloc (.cells #[] 32)) := HB2.out.alloc HB2.out.size _
              have H2 : Hid (RusAt (wq.alloc (.cells #[] 32)) (some ⟨g, 0, none⟩) L ∧ Boxed (wq.alloc (.cells #[] 32)) B #[.int .i64 r.id, .int .i64 r.prio, .int .i64 r.snet, .int .i64 r.sbits, .int .i64 r.dnet, .int .i64 r.dbits, .int .i64 r.proto, .int .i64 r.low, .int .i64 r.high, .int .i64 r.cls] 32 ∧ RusAt (wq.alloc (.cells #[] 32)) (some ⟨wq.heap.size, 0, none⟩) (L.drop k) ∧ DrLU W bc ac len0 cap w (.slice (some ⟨g, 0, none⟩) k c) L (wq.alloc (.cells #[] 32))) :=
                ⟨H5.out.1.row.at'.below B2, H5.out.2.below H5.out.2.under B2, by rw [List.drop_of_length_le (by rw [Hlen.out]; omega)]; exact RusAt.nil _ _, H5.out.1.below B2⟩
              clear B2 HM HB2
              go_wp2_with fail
              obtain ⟨g2, hg2⟩ : ∃ g2, wq.heap.size = g2 := ⟨_, rfl⟩
              rw [hg2] at H2 ⊢
              generalize wq.alloc (.cells #[] 32) = w2 at H2 ⊢
              clear hg2
              have hl1 : (L.take k).length = k := by rw [List.length_take, Hlen.out]; omega
              have hkc : k ≤ c := by omega
              refine region_all2 (by kernel_rfl) (by kernel_rfl) (by kernel_rfl) upUse (fun x => Below w2.heap.size w2 x) (upR w2.heap.size) (upPr w2.heap.size w2 (.slice (some ⟨g, 0, none⟩) k c) (.slice (some ⟨g2, 0, none⟩) 0 0) r L k) ?hR ?h0 ?step ?last
              case hR =>
                intro i j x x' v _ hjs hij hu h1 h2 hp hr
                have same : ∀ l, i ≠ 4 → i ≠ 7 → i ≠ 9 → RuRow w2.heap.size x v l → RuRow w2.heap.size x' v l := by
                  intro l h4 h7 h9 hrow
                  unfold upR at hr
                  rw [if_neg h4, if_neg (by omega)] at hr
                  rcases hr with rfl | ⟨o, rfl⟩
                  · exact hrow
                  · exact hrow.alloc _
                by_cases hj0 : j = 0
                · subst hj0
                  by_cases hi4 : i = 4
                  · subst hi4; exact absurd rfl hu
                  by_cases hi7 : i = 7
                  · subst hi7; exact no_so h2 (by kernel_rfl)
                  by_cases hi9 : i = 9
                  · subst hi9; exact no_so h2 (by kernel_rfl)
                  exact ⟨same _ hi4 hi7 hi9 hp.1, hp.2⟩
                by_cases hj4 : j = 4
                · subst hj4
                  by_cases hi7 : i = 7
                  · subst hi7; exact absurd rfl hu
                  by_cases hi9 : i = 9
                  · subst hi9; exact no_so h2 (by kernel_rfl)
                  exact ⟨same _ (by omega) hi7 hi9 hp.1, hp.2⟩
                by_cases hj6 : j = 6
                · subst hj6
                  obtain ⟨b, e, hbx⟩ : ∃ b, v = .slice (some ⟨b, 0, none⟩) 1 1 ∧ Boxed x b #[.int .i64 r.id, .int .i64 r.prio, .int .i64 r.snet, .int .i64 r.sbits, .int .i64 r.dnet, .int .i64 r.dbits, .int .i64 r.proto, .int .i64 r.low, .int .i64 r.high, .int .i64 r.cls] 32 := hp
                  by_cases hi7 : i = 7
                  · subst hi7; exact absurd rfl hu
                  by_cases hi9 : i = 9
                  · subst hi9; exact no_so h2 (by kernel_rfl)
                  by_cases hi4 : i = 4
                  · subst hi4
                    refine ⟨b, e, ?_⟩
                    have hh : ∀ k, k < x.heap.size → x.heap[k]? ≠ some (.cells #[] 32) → x'.heap[k]? = x.heap[k]? := hr
                    unfold Boxed at hbx ⊢
                    rw [hh b (heapLt hbx) (by rw [hbx]; simp)]
                    exact hbx
                  unfold upR at hr
                  rw [if_neg hi4, if_neg (by omega)] at hr
                  rcases hr with rfl | ⟨o, rfl⟩
                  · exact ⟨b, e, hbx⟩
                  · exact ⟨b, e, hbx.more _⟩
                by_cases hj7 : j = 7
                · subst hj7
                  by_cases hi4 : i = 4
                  · subst hi4; exact no_so h1 (by kernel_rfl)
                  by_cases hi9 : i = 9
                  · subst hi9; exact absurd rfl hu
                  exact ⟨same _ hi4 (by omega) hi9 hp.1, hp.2⟩
                by_cases hj9 : j = 9
                · subst hj9
                  by_cases hi4 : i = 4
                  · subst hi4; exact no_so h1 (by kernel_rfl)
                  by_cases hi7 : i = 7
                  · subst hi7; exact no_so h1 (by kernel_rfl)
                  exact ⟨same _ hi4 hi7 (by omega) hp.1, hp.2⟩
                by_cases hj10 : j = 10
                · subst hj10
                  by_cases hi4 : i = 4
                  · subst hi4; exact no_so h1 (by kernel_rfl)
                  by_cases hi7 : i = 7
                  · subst hi7; exact no_so h1 (by kernel_rfl)
                  by_cases hi9 : i = 9
                  · subst hi9; exact no_so h1 (by kernel_rfl)
                  exact ⟨same _ hi4 hi7 hi9 hp.1, hp.2⟩
                have hj11 : j < 11 := hjs
                have hjc : j = 1 ∨ j = 2 ∨ j = 3 ∨ j = 5 ∨ j = 8 := by omega
                rcases hjc with rfl | rfl | rfl | rfl | rfl
                · exact hp
                · exact hp
                · exact hp
                · exact hp
                · exact hp
              case h0 => exact (Below.refl _ _).drew
              case step =>
                intro i o hi ho a x hkp hst hI hp
                skip
                have t6 : a.tmps.getD 6 undef = .int .i64 (k : Int) := hkp.slot 6 (by kernel_rfl)
                have t7 : a.tmps.getD 7 undef = .slice (some ⟨g2, 0, none⟩) 0 0 := hkp.slot 7 (by kernel_rfl)
                have t3 : a.tmps.getD 5 undef = .pointer (some ⟨B, 0, none⟩) := hkp.slot 5 (by kernel_rfl)
                have t3' : a.tmps[5]?.getD undef = .pointer (some ⟨B, 0, none⟩) := by simpa using t3
                have hX := H2.out.2.1.below H2.out.2.1.under hI
                have d0 : x.cell? ⟨B, 0, none⟩ = some (.int .i64 r.id) := hX.cell 0 rfl
                have d1 : x.cell? ⟨B, 1, none⟩ = some (.int .i64 r.prio) := hX.cell 1 rfl
                have d2 : x.cell? ⟨B, 2, none⟩ = some (.int .i64 r.snet) := hX.cell 2 rfl
                have d3 : x.cell? ⟨B, 3, none⟩ = some (.int .i64 r.sbits) := hX.cell 3 rfl
                have d4 : x.cell? ⟨B, 4, none⟩ = some (.int .i64 r.dnet) := hX.cell 4 rfl
                have d5 : x.cell? ⟨B, 5, none⟩ = some (.int .i64 r.dbits) := hX.cell 5 rfl
                have d6 : x.cell? ⟨B, 6, none⟩ = some (.int .i64 r.proto) := hX.cell 6 rfl
                have d7 : x.cell? ⟨B, 7, none⟩ = some (.int .i64 r.low) := hX.cell 7 rfl
                have d8 : x.cell? ⟨B, 8, none⟩ = some (.int .i64 r.high) := hX.cell 8 rfl
                have d9 : x.cell? ⟨B, 9, none⟩ = some (.int .i64 r.cls) := hX.cell 9 rfl
                have hcases : i = 0 ∨ i = 1 ∨ i = 2 ∨ i = 3 ∨ i = 4 ∨ i = 5 ∨ i = 6 ∨ i = 7 ∨ i = 8 ∨ i = 9 ∨ i = 10 := by
                  have : i < 11 := hi
                  omega
                rcases hcases with rfl | rfl | rfl | rfl | rfl | rfl | rfl | rfl | rfl | rfl | rfl
                · cases ho
                  refine ⟨rfl, ?_⟩
                  unfold Oper.wp
                  simp [go_sem]
                  exact ⟨_, rfl, .inr ⟨_, rfl⟩, hI.alloc hI.size _, ru_built x _ hI.size, _, rfl⟩
                · cases ho
                  exact ⟨rfl, op_move 3 rfl ⟨_, rfl, .inl rfl, hI, hst 3 (by kernel_rfl)⟩⟩
                · cases ho
                  exact ⟨rfl, op_move 6 rfl ⟨_, rfl, .inl rfl, hI, t6⟩⟩
                · cases ho
                  have e1 : a.tmps[56]?.getD undef = .slice (some ⟨g, 0, none⟩) k c := by simpa [upPr] using hp 1 56 (by decide) (.inr (by decide)) rfl
                  have e2 : a.tmps[57]?.getD undef = .int .i64 (k : Int) := by simpa [upPr] using hp 2 57 (by decide) (.inr (by decide)) rfl
                  refine ⟨rfl, ?_⟩
                  unfold Oper.wp
                  simp [go_sem, e1, e2, hkc]
                  exact ⟨_, rfl, .inl rfl, hI, some ⟨g, 0, none⟩, c, rfl, by simp, rus_take H2.out.1 k⟩
                · cases ho
                  obtain ⟨r0, g0, eg0⟩ : RuRow w2.heap.size x (a.tmps.getD 55 undef) [] ∧ ∃ g0, a.tmps.getD 55 undef = .slice (some ⟨g0, 0, none⟩) 0 0 := hp 0 55 (by decide) (.inl rfl) rfl
                  obtain ⟨sa, sc, es, hne, er⟩ : ∃ sa sc, a.tmps.getD 58 undef = .slice sa k sc ∧ sa ≠ none ∧ RusAt w2 sa (L.take k) := hp 3 58 (by decide) (.inr (by decide)) rfl
                  refine ⟨rfl, ru_op_app (.tmp 55) (.tmp 58) rfl w2.heap.size _ [] sa k sc (L.take k) hl1 rfl es r0 (er.below hI) (fun e => absurd e hne) (by rw [hl1]; simp; omega) hI.size fun v' w' hr hb hgr hnil => ⟨_, rfl, ?_, hI.trans hb, hr, ?_⟩⟩
                  · show ∀ q, q < x.heap.size → x.heap[q]? ≠ some (.cells #[] 32) → w'.heap[q]? = x.heap[q]?
                    intro q hq hne2
                    refine hgr.block q hq fun e => ?_
                    rw [show a.eval (.tmp 55) = a.tmps.getD 55 undef from rfl, eg0] at e
                    obtain rfl : q = g0 := by simpa [Value.ownBlock] using e
                    rw [eg0] at r0
                    exact hne2 (ru_row_empty r0)
                  · intro e
                    have := hnil e
                    rw [show a.eval (.tmp 55) = a.tmps.getD 55 undef from rfl, eg0] at this
                    cases this
                · cases ho
                  refine ⟨rfl, ?_⟩
                  unfold Oper.wp
                  simp [go_sem, t3', d0, d1, d2, d3, d4, d5, d6, d7, d8, d9]
                  exact ⟨_, rfl, .inl rfl, hI, rfl⟩
                · cases ho
                  have e1 : a.tmps[60]?.getD undef = .agg #[.int .i64 r.id, .int .i64 r.prio, .int .i64 r.snet, .int .i64 r.sbits, .int .i64 r.dnet, .int .i64 r.dbits, .int .i64 r.proto, .int .i64 r.low, .int .i64 r.high, .int .i64 r.cls] := by simpa [upPr, Ru.val] using hp 5 60 (by decide) (.inr (by decide)) rfl
                  refine ⟨rfl, ?_⟩
                  unfold Oper.wp
                  simp [go_sem, e1]
                  exact ⟨_, rfl, .inr ⟨_, rfl⟩, hI.alloc hI.size _, _, rfl, Boxed.new x _ _⟩
                · cases ho
                  obtain ⟨r4, n4⟩ : RuRow w2.heap.size x (a.tmps.getD 59 undef) (L.take k) ∧ a.tmps.getD 59 undef ≠ .slice none 0 0 := hp 4 59 (by decide) (.inl rfl) rfl
                  obtain ⟨b6, e6, hbx⟩ : ∃ b, a.tmps.getD 61 undef = .slice (some ⟨b, 0, none⟩) 1 1 ∧ Boxed x b #[.int .i64 r.id, .int .i64 r.prio, .int .i64 r.snet, .int .i64 r.sbits, .int .i64 r.dnet, .int .i64 r.dbits, .int .i64 r.proto, .int .i64 r.low, .int .i64 r.high, .int .i64 r.cls] 32 := hp 6 61 (by decide) (.inl rfl) rfl
                  refine ⟨rfl, ru_op_app (.tmp 59) (.tmp 61) rfl w2.heap.size _ (L.take k) (some ⟨b6, 0, none⟩) 1 1 [r] rfl rfl e6 r4 (rus_of_box hbx) (by simp) (by rw [hl1]; simp; omega) hI.size fun v' w' hr hb _ hnil => ⟨_, rfl, ?_, hI.trans hb, hr, fun e => n4 (hnil e)⟩⟩
                  exact hb
                · cases ho
                  exact ⟨rfl, op_move 7 rfl ⟨_, rfl, .inl rfl, hI, t7⟩⟩
                · cases ho
                  obtain ⟨r7, n7⟩ : RuRow w2.heap.size x (a.tmps.getD 62 undef) (L.take k ++ [r]) ∧ a.tmps.getD 62 undef ≠ .slice none 0 0 := hp 7 62 (by decide) (.inl rfl) rfl
                  have e8 : a.tmps.getD 63 undef = .slice (some ⟨g2, 0, none⟩) 0 0 := hp 8 63 (by decide) (.inr (by decide)) rfl
                  refine ⟨rfl, ru_op_app (.tmp 62) (.tmp 63) rfl w2.heap.size _ (L.take k ++ [r]) (some ⟨g2, 0, none⟩) 0 0 (L.drop k) Hm.out rfl e8 r7 (H2.out.2.2.1.below hI) (by simp) (by rw [List.length_append, hl1, Hm.out]; simp; omega) hI.size fun v' w' hr hb _ hnil => ⟨_, rfl, ?_, hI.trans hb, hr, fun e => n7 (hnil e)⟩⟩
                  exact hb
                · cases ho
                  have r9 : RuRow w2.heap.size x (a.tmps.getD 64 undef) (L.take k ++ [r] ++ L.drop k) ∧ a.tmps.getD 64 undef ≠ .slice none 0 0 := hp 9 64 (by decide) (.inr (by decide)) rfl
                  refine ⟨rfl, ?_⟩
                  unfold Oper.wp
                  simp [execOp, Act.eval, Oper.upon]
                  exact ⟨_, rfl, .inl rfl, hI, (show RuRow w2.heap.size x _ (L.take k ++ [r] ++ L.drop k) ∧ _ ≠ Value.slice none 0 0 from by simpa using r9)⟩
              case last =>
                intro a x hkp hI hp
                obtain ⟨r10, n10⟩ : RuRow w2.heap.size x (a.tmps.getD 3 undef) (L.take k ++ [r] ++ L.drop k) ∧ a.tmps.getD 3 undef ≠ .slice none 0 0 := hp 10 3 (by decide) rfl
                obtain ⟨g9, c9, e9⟩ := r10.some n10
                have hl9 : (L.take k ++ [r] ++ L.drop k).length = k + 1 := by simp only [List.length_append, hl1, Hm.out, List.length_singleton] <;> omega
                rw [e9] at r10
                have HE : Hid (DrLU W bc ac len0 cap w (.slice (some ⟨g9, 0, none⟩) (L.take k ++ [r] ++ L.drop k).length c9) (L.take k ++ [r] ++ L.drop k) x) := H2.out.2.2.2.grow (hI.mono H2.out.2.2.2.kp.size) (r10.mono H2.out.2.2.2.kp.size)
                have ha := hkp.pick [true, true, true, false, true, true, true, true, true, true, true, true, true, true, true, true, true, true, true, true, true, true, true, true, true, true, true, true, true, true, true, true, true, true, true, true, true, true, true, true, true, true, true, true, true, true, true, true, true, true, true, true, true, true, true, false, false, false, false, false, false, false, false, false, false, true] (by kernel_rfl)
                simp only [pickS] at ha
                rw [e9] at ha
                clear hp hkp r10 n10 hI e9 H2
                generalize a.tmps.getD 55 undef = y55 at ha
                generalize a.tmps.getD 56 undef = y56 at ha
                generalize a.tmps.getD 57 undef = y57 at ha
                generalize a.tmps.getD 58 undef = y58 at ha
                generalize a.tmps.getD 59 undef = y59 at ha
                generalize a.tmps.getD 60 undef = y60 at ha
                generalize a.tmps.getD 61 undef = y61 at ha
                generalize a.tmps.getD 62 undef = y62 at ha
                generalize a.tmps.getD 63 undef = y63 at ha
                generalize a.tmps.getD 64 undef = y64 at ha
                rw [ha]
                clear ha
                obtain ⟨L9, hL9⟩ : ∃ L9, L.take k ++ [r] ++ L.drop k = L9 := ⟨_, rfl⟩
                rw [hL9] at HE hl9 ⊢
                clear hL9
                go_wp2
                go_roundw
                case rel => exact ⟨g9, c9, m - 1, L9, rfl, by rw [show ((m - 1 : Nat) : Int) = (m : Int) - 1 by omega], by omega, HE⟩
                case measure => simp [intOf]; omega

end Go.Proofs.Ytdifegaokdoleaa
