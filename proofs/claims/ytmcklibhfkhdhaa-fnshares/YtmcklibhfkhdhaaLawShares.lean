/-
  The walk of the law of shares. By the verifier.
-/
import Derived.Test.YtmcklibhfkhdhaaDraw
import Derived.Test.YtmcklibhfkhdhaaShare
import Derived.Deep.DeepCutAuto
namespace Go.Proofs.Ytmcklibhfkhdhaa
open Go.RowKit

set_option maxHeartbeats 400000 in
theorem drawShare {W : World} {a : Option Addr} {len cap : Nat} (hc : Hid (Code W a len)) (w : World) (bel : Hid (Below W.heap.size W w)) :
    Calls Try.prog 6 #[.slice a len cap] w fun e w' => (∃ x y z : Int, e = .returned (.tuple #[.int .i64 x, .int .i64 y, .int .i64 z])) ∧ Below W.heap.size W w' := by
  go_enter Try.func6, Try.ntmps6
  go_wp2_with fail
  refine (drawNew hc _ bel).mono ?_
  rintro e w1 ⟨rfl, c1, b1⟩
  have H1 : Hid (Cur W w.heap.size a len cap w1) := c1
  clear c1 b1
  go_wp2_with fail
  refine (drawDraw hc _ H1).mono ?_
  rintro e w2 ⟨⟨x, rfl, x0, x1⟩, c2, k2⟩
  have H2 : Hid (Cur W w.heap.size a len cap w2) := c2
  clear c2 k2 H1
  go_wp2_with fail
  refine (drawDraw hc _ H2).mono ?_
  rintro e w3 ⟨⟨y, rfl, y0, y1⟩, c3, k3⟩
  have H3 : Hid (Cur W w.heap.size a len cap w3) := c3
  clear c3 k3 H2
  go_wp2_with fail
  refine (drawDraw hc _ H3).mono ?_
  rintro e w4 ⟨⟨z, rfl, z0, z1⟩, c4, k4⟩
  have H4 : Hid (Below W.heap.size W w4) := c4.bel
  clear c4 k4 H3
  go_wp2
  go_ret3
  exact ⟨⟨_, _, _, rfl⟩, H4.out⟩
set_option maxHeartbeats 400000 in
theorem drawPlus {W : World} {a : Option Addr} {len cap : Nat} (hc : Hid (Code W a len)) (w : World) (bel : Hid (Below W.heap.size W w)) :
    Calls Try.prog 8 #[.slice a len cap] w fun e w' => (∃ x y : Int, e = .returned (.tuple #[.int .i64 x, .int .i64 y])) ∧ Below W.heap.size W w' := by
  go_enter Try.func8, Try.ntmps8
  go_wp2_with fail
  refine (drawNew hc _ bel).mono ?_
  rintro e w1 ⟨rfl, c1, b1⟩
  have H1 : Hid (Cur W w.heap.size a len cap w1) := c1
  clear c1 b1
  go_wp2_with fail
  refine (drawDraw hc _ H1).mono ?_
  rintro e w2 ⟨⟨x, rfl, x0, x1⟩, c2, k2⟩
  have H2 : Hid (Cur W w.heap.size a len cap w2) := c2
  clear c2 k2 H1
  go_wp2_with fail
  refine (drawDraw hc _ H2).mono ?_
  rintro e w3 ⟨⟨y, rfl, y0, y1⟩, c3, k3⟩
  have H3 : Hid (Below W.heap.size W w3) := c3.bel
  clear c3 k3 H2
  go_wp2
  go_ret2
  exact ⟨⟨_, _, rfl⟩, H3.out⟩

theorem plus_facts {x y : Int} : plusV x y < 0 ∨
    (0 ≤ plusV x y ∧ plusV x y ≤ 1099511627776 ∧ x ≤ plusV x y ∧ minusV x y ≤ x ∧ (plusV x y < 1099511627776 → minusV (plusV x y) y = x) ∧ (0 < minusV x y → plusV (minusV x y) y = x)) := by
  by_cases h : 0 ≤ x ∧ x ≤ 1099511627776 ∧ 0 ≤ y ∧ y ≤ 1099511627776
  · right
    have e1 : plusV x y = if x + y < 1099511627776 then x + y else 1099511627776 := if_pos h
    have e2 : minusV x y = if 0 < x - y then x - y else 0 := if_pos h
    have b1 : 0 ≤ plusV x y ∧ plusV x y ≤ 1099511627776 ∧ x ≤ plusV x y ∧ (plusV x y < 1099511627776 → plusV x y = x + y) := by rw [e1]; split <;> omega
    have b2 : 0 ≤ minusV x y ∧ minusV x y ≤ x ∧ (0 < minusV x y → minusV x y = x - y) := by rw [e2]; split <;> omega
    clear e1 e2
    refine ⟨b1.1, b1.2.1, b1.2.2.1, b2.2.1, fun hp => ?_, fun hm => ?_⟩
    · rw [minusV, if_pos (by omega)]
      have := b1.2.2.2 hp
      split <;> omega
    · rw [plusV, if_pos (by omega)]
      have := b2.2.2 hm
      split <;> omega
  · left; rw [plusV, if_neg h]; omega

theorem none_of {p x m : Int} (h1 : p ≤ 1099511627776) (h2 : x ≤ p) (h3 : m ≤ x) : Value.bool (decide (1099511627776 < p) || decide (p < x) || decide (x < m)) = .bool false := by
  have e1 : decide (1099511627776 < p) = false := by simp; omega
  have e2 : decide (p < x) = false := by simp; omega
  have e3 : decide (x < m) = false := by simp; omega
  rw [e1, e2, e3]; rfl
/-- a, b and c are numbers of chapter 1. -/
def Ok3 (a b c : Int) : Prop := 0 ≤ a ∧ a ≤ 1099511627776 ∧ 0 ≤ b ∧ b ≤ 1099511627776 ∧ 0 ≤ c ∧ c ≤ 1099511627776
theorem share_ok {a b c : Int} (h : Ok3 a b c) : shareV a b c = Plain.share a b c := if_pos h
theorem share_no {a b c : Int} (h : ¬ Ok3 a b c) : shareV a b c = -1 := if_neg h
theorem share_range {a b c : Int} (h : Ok3 a b c) : 0 ≤ shareV a b c ∧ shareV a b c ≤ 1099511627776 := by
  rw [share_ok h, Plain.share]
  obtain ⟨h1, h2, h3, h4, h5, h6⟩ := h
  have := Int.ediv_nonneg (Int.mul_nonneg h1 h3) h5
  split <;> omega
theorem share_comm (a b c : Int) : shareV b a c = shareV a b c := by
  by_cases h : Ok3 a b c
  · obtain ⟨h1, h2, h3, h4, h5, h6⟩ := h
    rw [share_ok ⟨h1, h2, h3, h4, h5, h6⟩, share_ok ⟨h3, h4, h1, h2, h5, h6⟩, Plain.share, Plain.share, Int.mul_comm]
  · have g : ¬ Ok3 b a c := by unfold Ok3 at *; omega
    rw [share_no g, share_no h]
theorem share_exact {a b c : Int} (h : Ok3 a b c) (hc : 0 < c) (hq : shareV a b c < 1099511627776) : shareV a b c = a * b / c := by
  rw [share_ok h, Plain.share, if_neg (by omega)] at *
  omega
theorem share_null {a b : Int} (h : Ok3 a b 0) : shareV a b 0 = 1099511627776 := by rw [share_ok h]; rfl
theorem share_up {a b c : Int} (h : Ok3 a b c) (ha : a < 1099511627776) : shareV a b c ≤ shareV (a + 1) b c := by
  obtain ⟨h1, h2, h3, h4, h5, h6⟩ := h
  rw [share_ok ⟨h1, h2, h3, h4, h5, h6⟩, share_ok ⟨by omega, by omega, h3, h4, h5, h6⟩, Plain.share, Plain.share]
  by_cases hc : c = 0
  · rw [if_pos hc, if_pos hc]; omega
  · rw [if_neg hc, if_neg hc]
    have : a * b / c ≤ (a + 1) * b / c := Int.ediv_le_ediv (by omega) (by rw [Int.add_mul]; omega)
    omega
theorem share_down {a b c : Int} (h : Ok3 a b c) (hc : c < 1099511627776) : shareV a b (c + 1) ≤ shareV a b c := by
  obtain ⟨h1, h2, h3, h4, h5, h6⟩ := h
  rw [share_ok ⟨h1, h2, h3, h4, h5, h6⟩, share_ok ⟨h1, h2, h3, h4, by omega, by omega⟩, Plain.share, Plain.share]
  rw [if_neg (show ¬ c + 1 = 0 by omega)]
  by_cases hz : c = 0
  · rw [if_pos hz]; omega
  · rw [if_neg hz]
    have hab := Int.mul_nonneg h1 h3
    have : a * b / (c + 1) ≤ a * b / c := by
      refine (Int.le_ediv_iff_mul_le (by omega)).2 ?_
      have q0 := Int.ediv_nonneg hab (show 0 ≤ c + 1 by omega)
      have q1 := Int.ediv_mul_le (a * b) (show c + 1 ≠ 0 by omega)
      rw [Int.mul_add] at q1
      omega
    omega
theorem share_same {a b c : Int} (h : Ok3 a b c) (hc : 0 < c) : shareV a c c = a := by
  obtain ⟨h1, h2, h3, h4, h5, h6⟩ := h
  rw [share_ok ⟨h1, h2, h5, h6, h5, h6⟩, Plain.share, if_neg (by omega), Int.mul_ediv_cancel a (by omega)]
  omega

set_option maxRecDepth 100000 in
set_option maxHeartbeats 2000000 in
theorem fnShares_walk (s : Option Addr) (len cap : Nat) (w : World)
    (hcode : ∀ k, k < len → ∃ b off z, s = some ⟨b, off, none⟩ ∧ b < w.heap.size ∧ w.cell? ⟨b, off + k, none⟩ = some (.int .u8 z) ∧ 0 ≤ z ∧ z ≤ 255) :
    Calls Try.prog 3 #[.slice s len cap] w fun e w' => e = .returned (.bool true) ∧ Below w.heap.size w w' := by
  by_cases hbig : 4096 < len
  · clear hcode
    go_enter Try.func3, Try.ntmps3
    go_wp2
    go_ret
    exact ⟨rfl, Below.refl _ _⟩
  have hc : Hid (Code w s len) := ⟨by omega, hcode⟩
  have hb : Hid (Below w.heap.size w w) := Below.refl _ _
  clear hcode
  go_enter Try.func3, Try.ntmps3
  go_wp2_with (go_at_call 5; go_in)
  refine (drawShare hc _ hb).mono ?_
  rintro e w1 ⟨⟨a, b, c, rfl⟩, b1⟩
  have H1 : Hid (Below w.heap.size w w1) := b1
  clear b1 hb
  go_wp2_with fail
  refine (implShare a b c _).mono ?_
  rintro e w2 ⟨rfl, g2⟩
  have H2 : Hid (Below w.heap.size w w2) := H1.out.trans (g2.2.mono H1.out.size)
  clear g2 H1
  go_wp2_with fail
  refine (drawPlus hc _ H2).mono ?_
  rintro e w3 ⟨⟨x, y, rfl⟩, b3⟩
  have H3 : Hid (Below w.heap.size w w3) := b3
  clear b3 H2 hc
  go_wp2_with fail
  refine (implPlus x y _).mono ?_
  rintro e w4 ⟨rfl, g4⟩
  have H4 : Hid (Below w.heap.size w w4) := H3.out.trans (g4.2.mono H3.out.size)
  clear g4 H3
  go_wp2_with fail
  refine (implMinus x y _).mono ?_
  rintro e w5 ⟨rfl, g5⟩
  have H5 : Hid (Below w.heap.size w w5) := H4.out.trans (g5.2.mono H4.out.size)
  clear g5 H4
  go_wp2_with fail
  refine (specShare a b c _).mono ?_
  rintro e w6 ⟨rfl, rfl⟩
  go_wp2_with fail
  refine (specPlus x y _).mono ?_
  rintro e w6 ⟨rfl, rfl⟩
  go_wp2_with fail
  refine (specMinus x y _).mono ?_
  rintro e w6 ⟨rfl, rfl⟩
  go_wp2_with fail
  refine (implFixOk a _).mono ?_
  rintro e w6 ⟨rfl, rfl⟩
  go_wp2_with fail
  refine (specFixOk a _).mono ?_
  rintro e w6 ⟨rfl, rfl⟩
  have pf := @plus_facts x y
  generalize plusV x y = p at *
  generalize minusV x y = m at *
  have Hpf : Hid (p < 0 ∨ (0 ≤ p ∧ p ≤ 1099511627776 ∧ x ≤ p ∧ m ≤ x ∧ (p < 1099511627776 → minusV p y = x) ∧ (0 < m → plusV m y = x))) := pf
  clear pf
  go_upto_region 10 with fail
  go_cut [98] (fun s98 wx => s98 = .bool false ∧ Hid (Below w.heap.size w wx))
  case first =>
    rcases Hpf.out with hp | ⟨p0, p1, p2, m1, k1, k2⟩
    · go_wp2_with fail
      go_meet
      exact ⟨rfl, H5⟩
    · clear Hpf
      have K1 : Hid (p < 1099511627776 → minusV p y = x) := k1
      have K2 : Hid (0 < m → plusV m y = x) := k2
      clear k1 k2
      by_cases hlt : p < 1099511627776
      · have L1 : Hid (minusV p y = x) := K1.out hlt
        by_cases hm : 0 < m
        · have L2 : Hid (plusV m y = x) := K2.out hm
          go_wp2_with fail
          refine (implMinus p y _).mono ?_
          rintro e w7 ⟨rfl, g7⟩
          rw [L1.out]
          have H7 : Hid (Below w.heap.size w w7) := H5.out.trans (g7.2.mono H5.out.size)
          clear g7
          go_wp2_with fail
          refine (implPlus m y _).mono ?_
          rintro e w8 ⟨rfl, g8⟩
          rw [L2.out]
          have H8 : Hid (Below w.heap.size w w8) := H7.out.trans (g8.2.mono H7.out.size)
          clear g8
          go_wp2_with fail
          go_meet
          exact ⟨none_of p1 p2 m1, H8⟩
        · go_wp2_with fail
          refine (implMinus p y _).mono ?_
          rintro e w7 ⟨rfl, g7⟩
          rw [L1.out]
          have H7 : Hid (Below w.heap.size w w7) := H5.out.trans (g7.2.mono H5.out.size)
          clear g7
          go_wp2_with fail
          go_meet
          exact ⟨none_of p1 p2 m1, H7⟩
      · by_cases hm : 0 < m
        · have L2 : Hid (plusV m y = x) := K2.out hm
          go_wp2_with fail
          refine (implPlus m y _).mono ?_
          rintro e w8 ⟨rfl, g8⟩
          rw [L2.out]
          have H8 : Hid (Below w.heap.size w w8) := H5.out.trans (g8.2.mono H5.out.size)
          clear g8
          go_wp2_with fail
          go_meet
          exact ⟨none_of p1 p2 m1, H8⟩
        · go_wp2_with fail
          go_meet
          exact ⟨none_of p1 p2 m1, H5⟩
  case rest =>
    obtain ⟨rfl, Hc⟩ := hcut
    clear H5 Hpf
    by_cases ok : Ok3 a b c
    · have q0 := share_range ok
      have qc := share_comm a b c
      have qe := fun h1 h2 => share_exact ok h1 h2
      have qz : c = 0 → shareV a b c = 1099511627776 := by rintro rfl; exact share_null ok
      have qu := fun h => share_up ok h
      have qd := fun h => share_down ok h
      have qs := fun h => share_same ok h
      generalize shareV a b c = q at *
      obtain ⟨q00, q01⟩ := q0
      obtain ⟨ha0, ha1, hb0, hb1, hc0, hc1⟩ := ok
      have Qc : Hid (shareV b a c = q) := qc
      have Qe : Hid (0 < c → q < 1099511627776 → q = a * b / c) := qe
      have Qz : Hid (c = 0 → q = 1099511627776) := qz
      have Qu : Hid (a < 1099511627776 → q ≤ shareV (a + 1) b c) := qu
      have Qd : Hid (c < 1099511627776 → shareV a b (c + 1) ≤ q) := qd
      have Qs : Hid (0 < c → shareV a c c = a) := qs
      clear qc qe qz qu qd qs
      go_upto_region 14 with fail
      go_cut [144] (fun s144 wx => s144 = .bool false ∧ Hid (Below w.heap.size w wx))
      case first =>
        go_wp2_with fail
        refine (implShare b a c _).mono ?_
        rintro e w7 ⟨rfl, g7⟩
        rw [Qc.out]
        have H7 : Hid (Below w.heap.size w w7) := Hc.out.trans (g7.2.mono Hc.out.size)
        clear g7 Hc
        by_cases hc : 0 < c
        · by_cases ha : a ≤ 1048576
          · by_cases hq : q < 1099511627776
            · have ab0 : 0 ≤ a * b := Int.mul_nonneg ha0 hb0
              have ab1 : a * b ≤ 1152921504606846976 := by
                have := Int.mul_le_mul_of_nonneg_right ha hb0; omega
              have hz : ¬ c = 0 := by omega
              have e := Qe.out hc hq
              have E : Hid (q = a * b / c) := e
              have e' : (q != a * b / c) = false := by rw [← e]; simp
              clear e
              go_wp2_with fail
              go_meet
              exact ⟨rfl, H7⟩
            · go_wp2_with fail
              go_meet
              exact ⟨rfl, H7⟩
          · go_wp2_with fail
            go_meet
            exact ⟨rfl, H7⟩
        · go_wp2_with fail
          go_meet
          exact ⟨rfl, H7⟩
      case rest =>
        clear Hc
        obtain ⟨rfl, Hc⟩ := hcut
        by_cases hA : a = 1099511627776
        · by_cases hC : c = 0
          · subst hA
            subst hC
            obtain rfl := Qz.out rfl
            have d := Qd.out (by omega)
            rw [show (0 : Int) + 1 = 1 from rfl] at d
            go_wp2_with fail
            refine (implShare 1099511627776 b 1 _).mono ?_
            rintro e w8 ⟨rfl, g8⟩
            have H8 : Hid (Below w.heap.size w w8) := Hc.out.trans (g8.2.mono Hc.out.size)
            clear g8
            generalize shareV 1099511627776 b 1 = z8 at *
            go_wp2
            go_ret
            exact ⟨rfl, H8.out⟩
          · by_cases hC' : c = 1099511627776
            · subst hA
              clear hC
              subst hC'
              have t := Qs.out (by omega)
              have T : Hid (shareV 1099511627776 1099511627776 1099511627776 = 1099511627776) := t
              clear t
              go_wp2_with fail
              refine (implShare 1099511627776 1099511627776 1099511627776 _).mono ?_
              rintro e w8 ⟨rfl, g8⟩
              rw [T.out]
              have H8 : Hid (Below w.heap.size w w8) := Hc.out.trans (g8.2.mono Hc.out.size)
              clear g8
              go_wp2
              go_ret
              exact ⟨rfl, H8.out⟩
            · subst hA
              have hCb : (c == 1099511627776) = false := by simp [hC']
              have hC1 : (c == 0) = false := by simp [hC]
              have hC2 : (c != 0) = true := by simp [hC]
              have d := Qd.out (by omega)
              go_wp2_with fail
              refine (implShare 1099511627776 b (c + 1) _).mono ?_
              rintro e w8 ⟨rfl, g8⟩
              have H8 : Hid (Below w.heap.size w w8) := Hc.out.trans (g8.2.mono Hc.out.size)
              clear g8
              generalize shareV 1099511627776 b (c + 1) = z8 at *
              have t := Qs.out (by omega)
              have T : Hid (shareV 1099511627776 c c = 1099511627776) := t
              clear t
              go_wp2_with fail
              refine (implShare 1099511627776 c c _).mono ?_
              rintro e w9 ⟨rfl, g9⟩
              rw [T.out]
              have H9 : Hid (Below w.heap.size w w9) := H8.out.trans (g9.2.mono H8.out.size)
              clear g9
              go_wp2
              go_ret
              exact ⟨rfl, H9.out⟩
        · by_cases hC : c = 0
          · have hAb : (a == 1099511627776) = false := by simp [hA]
            subst hC
            obtain rfl := Qz.out rfl
            have u := Qu.out (by omega)
            go_wp2_with fail
            refine (implShare (a + 1) b 0 _).mono ?_
            rintro e w8 ⟨rfl, g8⟩
            have H8 : Hid (Below w.heap.size w w8) := Hc.out.trans (g8.2.mono Hc.out.size)
            clear g8
            generalize shareV (a + 1) b 0 = z8 at *
            have d := Qd.out (by omega)
            rw [show (0 : Int) + 1 = 1 from rfl] at d
            go_wp2_with fail
            refine (implShare a b 1 _).mono ?_
            rintro e w9 ⟨rfl, g9⟩
            have H9 : Hid (Below w.heap.size w w9) := H8.out.trans (g9.2.mono H8.out.size)
            clear g9
            generalize shareV a b 1 = z9 at *
            go_wp2
            go_ret
            exact ⟨rfl, H9.out⟩
          · by_cases hC' : c = 1099511627776
            · have hAb : (a == 1099511627776) = false := by simp [hA]
              clear hC
              subst hC'
              have u := Qu.out (by omega)
              go_wp2_with fail
              refine (implShare (a + 1) b 1099511627776 _).mono ?_
              rintro e w8 ⟨rfl, g8⟩
              have H8 : Hid (Below w.heap.size w w8) := Hc.out.trans (g8.2.mono Hc.out.size)
              clear g8
              generalize shareV (a + 1) b 1099511627776 = z8 at *
              have t := Qs.out (by omega)
              have T : Hid (shareV a 1099511627776 1099511627776 = a) := t
              clear t
              go_wp2_with fail
              refine (implShare a 1099511627776 1099511627776 _).mono ?_
              rintro e w9 ⟨rfl, g9⟩
              rw [T.out]
              have H9 : Hid (Below w.heap.size w w9) := H8.out.trans (g9.2.mono H8.out.size)
              clear g9
              go_wp2
              go_ret
              exact ⟨rfl, H9.out⟩
            · have hAb : (a == 1099511627776) = false := by simp [hA]
              have hCb : (c == 1099511627776) = false := by simp [hC']
              have hC1 : (c == 0) = false := by simp [hC]
              have hC2 : (c != 0) = true := by simp [hC]
              have u := Qu.out (by omega)
              go_wp2_with fail
              refine (implShare (a + 1) b c _).mono ?_
              rintro e w8 ⟨rfl, g8⟩
              have H8 : Hid (Below w.heap.size w w8) := Hc.out.trans (g8.2.mono Hc.out.size)
              clear g8
              generalize shareV (a + 1) b c = z8 at *
              have d := Qd.out (by omega)
              go_wp2_with fail
              refine (implShare a b (c + 1) _).mono ?_
              rintro e w9 ⟨rfl, g9⟩
              have H9 : Hid (Below w.heap.size w w9) := H8.out.trans (g9.2.mono H8.out.size)
              clear g9
              generalize shareV a b (c + 1) = z9 at *
              have t := Qs.out (by omega)
              have T : Hid (shareV a c c = a) := t
              clear t
              go_wp2_with fail
              refine (implShare a c c _).mono ?_
              rintro e w10 ⟨rfl, g10⟩
              rw [T.out]
              have H10 : Hid (Below w.heap.size w w10) := H9.out.trans (g10.2.mono H9.out.size)
              clear g10
              go_wp2
              go_ret
              exact ⟨rfl, H10.out⟩
    · have hq := share_no ok
      rw [hq]
      clear hq
      cases ha : okB a
      · go_wp2_with (first | (go_at_call 15; refine (specFixOk _ _).mono ?_; rintro e w' ⟨rfl, rfl⟩))
        go_ret
        exact ⟨rfl, Hc.out⟩
      cases hb : okB b
      · go_wp2_with (first | (go_at_call 15; refine (specFixOk _ _).mono ?_; rintro e w' ⟨rfl, rfl⟩))
        go_ret
        exact ⟨rfl, Hc.out⟩
      cases hz : okB c
      · go_wp2_with (first | (go_at_call 15; refine (specFixOk _ _).mono ?_; rintro e w' ⟨rfl, rfl⟩))
        go_ret
        exact ⟨rfl, Hc.out⟩
      have t1 := okB_true.1 ha
      have t2 := okB_true.1 hb
      have t3 := okB_true.1 hz
      exact (ok ⟨t1.1, t1.2, t2.1, t2.2, t3.1, t3.2⟩).elim
end Go.Proofs.Ytmcklibhfkhdhaa
