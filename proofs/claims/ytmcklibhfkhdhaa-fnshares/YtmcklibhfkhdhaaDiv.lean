/-
  The walk of the library's division of two words by one. By the verifier.
-/
import Derived.Test.YtmcklibhfkhdhaaLeading
import Derived.Test.YtmcklibhfkhdhaaKnuth
import Derived.Test.YtmcklibhfkhdhaaBase
import Derived.RegionTactic
import Derived.Handy
namespace Go.Proofs.Ytmcklibhfkhdhaa
open Go.RowKit

set_option maxHeartbeats 400000 in
theorem div64_low (lo y : Int) (w : World) (h0 : 0 < y) (h1 : 0 ≤ lo) (h2 : lo < 18446744073709551616) :
    Calls Try.prog 37 #[.int .u64 0, .int .u64 lo, .int .u64 y] w fun e w' => (∃ r, e = .returned (.tuple #[.int .u64 (lo / y), r])) ∧ New w w' := by
  have c1 : (y == 0) = false := by simp; omega
  have c2 : 0 ≤ lo / y := Int.ediv_nonneg h1 (by omega)
  go_enter Try.func37, Try.ntmps37
  go_wp2
  go_region
  all_goals go_wp2
  all_goals (go_ret2; exact ⟨⟨_, rfl⟩, (New.refl _).drew⟩)

/-- A guess of a digit, and what is left by it. -/
def Dig (u v Y y1 q r : Int) : Prop := 0 ≤ q ∧ q ≤ 4294967297 ∧ (u * 4294967296 + v) / Y ≤ q ∧ q * y1 + r = u ∧ 0 ≤ r ∧ r < 4294967296
/-- The divisor's halves, and what is to be divided. -/
structure Pre (u v Y y1 y0 : Int) : Prop where
  halves : Y = y1 * 4294967296 + y0
  y1lo : 2147483648 ≤ y1
  y1hi : y1 < 4294967296
  y0lo : 0 ≤ y0
  y0hi : y0 < 4294967296
  ulo : 0 ≤ u
  uhi : u < Y
  vlo : 0 ≤ v
  vhi : v < 4294967296
theorem Pre.pos {u v Y y1 y0 : Int} (p : Pre u v Y y1 y0) : 0 < Y := by have := p.halves; have := p.y1lo; have := p.y0lo; omega
theorem Pre.digit {u v Y y1 y0 : Int} (p : Pre u v Y y1 y0) : 0 ≤ (u * 4294967296 + v) / Y ∧ (u * 4294967296 + v) / Y < 4294967296 := by
  have h := p.pos; have := p.ulo; have := p.vlo; have := p.uhi; have := p.vhi
  exact ⟨Int.ediv_nonneg (by omega) (by omega), Int.ediv_lt_of_lt_mul h (by omega)⟩
theorem Pre.start {u v Y y1 y0 : Int} (p : Pre u v Y y1 y0) : Dig u v Y y1 (u / y1) (u - u / y1 * y1) := by
  have h := p.uhi; have e := p.halves
  have st := Knuth.start p.ulo (by omega) p.vhi p.y1lo p.y1hi p.y0lo p.y0hi
  rw [← e] at st
  have := p.y1hi
  exact ⟨st.1, st.2.1, st.2.2.1, st.2.2.2.1, st.2.2.2.2.1, by omega⟩
theorem Dig.less {u v Y y1 y0 q r : Int} (p : Pre u v Y y1 y0) (d : Dig u v Y y1 q r) (ht : 4294967296 ≤ q ∨ 4294967296 * r + v < q * y0) : 1 ≤ q ∧ (u * 4294967296 + v) / Y ≤ q - 1 := by
  have h := p.uhi; have e := p.halves; have pos := p.pos; have dg := p.digit
  subst e
  have m := Knuth.more (by omega) p.vhi pos d.2.2.2.1 d.2.2.1 ht
  exact ⟨by omega, m⟩
theorem Dig.next {u v Y y1 y0 q r : Int} (p : Pre u v Y y1 y0) (d : Dig u v Y y1 q r) (ht : 4294967296 ≤ q ∨ 4294967296 * r + v < q * y0) (hb : r + y1 < 4294967296) : Dig u v Y y1 (q - 1) (r + y1) := by
  obtain ⟨l1, l2⟩ := d.less p ht
  obtain ⟨d1, d2, d3, d4, d5, d6⟩ := d
  have := p.y1lo
  have x : (q - 1) * y1 = q * y1 - y1 := by rw [Int.sub_mul, Int.one_mul]
  exact ⟨by omega, by omega, l2, by omega, by omega, hb⟩
theorem Dig.stop {u v Y y1 y0 q r : Int} (p : Pre u v Y y1 y0) (d : Dig u v Y y1 q r) (ht : 4294967296 ≤ q ∨ 4294967296 * r + v < q * y0) (hb : 4294967296 ≤ r + y1) : q = (u * 4294967296 + v) / Y + 1 := by
  obtain ⟨l1, l2⟩ := d.less p ht
  obtain ⟨d1, d2, d3, d4, d5, d6⟩ := d
  have e := p.halves; have pos := p.pos
  subst e
  have x : (q - 1) * y1 = q * y1 - y1 := by rw [Int.sub_mul, Int.one_mul]
  have w := Knuth.whole p.y0lo p.y0hi (show q - 1 ≤ 4294967296 by omega) p.vlo hb
  have f := Knuth.done (v := v) pos (show (q - 1) * y1 + (r + y1) = u by omega) l2 w
  omega
theorem Dig.out {u v Y y1 y0 q r : Int} (p : Pre u v Y y1 y0) (d : Dig u v Y y1 q r) (ht : ¬ 4294967296 * r + v < q * y0) : q = (u * 4294967296 + v) / Y := by
  obtain ⟨d1, d2, d3, d4, d5, d6⟩ := d
  have e := p.halves; have pos := p.pos
  subst e
  exact Knuth.done pos d4 d3 (by omega)
theorem Pre.rest {u v Y y1 y0 z : Int} (p : Pre u v Y y1 y0) (z0 : 0 ≤ z) (z1 : z < 4294967296) : Pre (u * 4294967296 + v - (u * 4294967296 + v) / Y * Y) z Y y1 y0 := by
  have l := Knuth.left (u := u) (v := v) p.pos
  exact ⟨p.halves, p.y1lo, p.y1hi, p.y0lo, p.y0hi, l.1, l.2, z0, z1⟩


theorem ret_pair {a b : Int} {r : Value} (h : a = b) : Ending.returned (.tuple #[.int .u64 a, r]) = .returned (.tuple #[.int .u64 b, r]) := by rw [h]
/-- What the second digit begins with. -/
theorem second {u v1 v0 Y y1 y0 n : Int} (p : Pre u v1 Y y1 y0) (z0 : 0 ≤ v0) (z1 : v0 < 4294967296)
    (hn : (u * 4294967296 + v1) / Y * 4294967296 + ((u * 4294967296 + v1 - (u * 4294967296 + v1) / Y * Y) * 4294967296 + v0) / Y = n) :
    ∃ Q R q r : Int, Hid ((u * 4294967296 + v1) / Y = Q) ∧ 0 ≤ Q ∧ Q < 4294967296 ∧ Hid (Pre R v0 Y y1 y0) ∧ 0 ≤ R ∧ R < 18446744073709551616 ∧
      Hid (IntKind.u64.wrap (IntKind.u64.wrap (IntKind.u64.wrap (u * 4294967296) + v1) - IntKind.u64.wrap (Q * Y)) = R) ∧
      Hid (R / y1 = q) ∧ Hid (R - q * y1 = r) ∧ Hid (Dig R v0 Y y1 q r) ∧ 0 ≤ q * y1 ∧ q * y1 ≤ R ∧
      Hid (∀ d, d = (R * 4294967296 + v0) / Y → 0 ≤ d ∧ d < 4294967296 ∧ Q * 4294967296 + d = n) := by
  have pr := p.rest z0 z1
  have dg := p.digit
  have st := pr.start
  have l := Knuth.left (u := u) (v := v1) p.pos
  have hY : Y < 18446744073709551616 := by have := p.halves; have := p.y1hi; have := p.y0hi; omega
  have dg2 := pr.digit
  generalize (u * 4294967296 + v1) / Y = Q at *
  refine ⟨Q, u * 4294967296 + v1 - Q * Y, (u * 4294967296 + v1 - Q * Y) / y1, _, rfl, dg.1, dg.2, pr, l.1, by omega, ?_, rfl, rfl, st, Int.mul_nonneg st.1 (by have := p.y1lo; omega), ?_, ?_⟩
  · show _ = _
    simp only [IntKind.wrap_u64]
    omega
  · have := st.2.2.2.2.1; omega
  · rintro d rfl
    exact ⟨dg2.1, dg2.2, hn⟩

set_option maxHeartbeats 2000000 in
theorem div64_high (hi lo y : Int) (w : World) (h0 : 0 < hi) (h1 : hi < y) (h2 : y < 18446744073709551616) (h3 : 0 ≤ lo) (h4 : lo < 18446744073709551616) :
    Calls Try.prog 37 #[.int .u64 hi, .int .u64 lo, .int .u64 y] w fun e w' => (∃ r, e = .returned (.tuple #[.int .u64 ((hi * 18446744073709551616 + lo) / y), r])) ∧ New w w' := by
  have c1 : (y == 0) = false := by simp; omega
  have c2 : (hi == 0) = false := by simp; omega
  go_enter Try.func37, Try.ntmps37
  go_wp2_with fail
  refine (leading y _ (by omega) h2).mono ?_
  rintro e w' ⟨⟨s, rfl, hs⟩, rfl⟩
  obtain ⟨Y, y1, y0, u, L, v1, v0, e1, e2, e3, e4, e5, e6, e7, laid⟩ := prep hs h0 h1 h3 h4
  have s63 := hs.1
  have Hl : Hid (Laid hi lo y s Y y1 y0 u v1 v0) := laid
  have pre : Pre u v1 Y y1 y0 := ⟨laid.halves, laid.y1lo, laid.y1hi, laid.y0lo, laid.y0hi, laid.ulo, laid.uhi, laid.v1lo, laid.v1hi⟩
  have y1lo := laid.y1lo
  have y1hi := laid.y1hi
  have y0lo := laid.y0lo
  have y0hi := laid.y0hi
  have ulo := laid.ulo
  have uhi : u < 18446744073709551616 := by have := laid.uhi; have := laid.halves; omega
  have v1lo := laid.v1lo
  have v1hi := laid.v1hi
  have v0lo := laid.v0lo
  have v0hi := laid.v0hi
  have d0 := pre.start
  have Hq : ∃ q, u / y1 = q := ⟨_, rfl⟩
  obtain ⟨q, eq⟩ := Hq
  rw [eq] at d0
  have Hr : ∃ r, u - q * y1 = r := ⟨_, rfl⟩
  obtain ⟨r, er⟩ := Hr
  rw [er] at d0
  have q0 := d0.1
  have qy0 : 0 ≤ q * y1 := Int.mul_nonneg q0 (by omega)
  have qy1 : q * y1 ≤ u := by have := d0.2.2.2.2.1; omega
  have Hd : Hid (Dig u v1 Y y1 q r) := d0
  have Hp : Hid (Pre u v1 Y y1 y0) := pre
  obtain ⟨Q, R, q2, r2, HQ, Q0, Q1, Hp2, R0, Rhi, H21, Hq2, Hr2, Hd2, p2lo, p2hi, Hn⟩ := second (n := (hi * 18446744073709551616 + lo) / y) pre v0lo v0hi (by
    rw [laid.shifted]
    exact Knuth.both (by omega) (Int.pow_pos (by omega)) laid.whole)
  clear hs laid d0 pre
  have c3 : ¬ y1 = 0 := by omega
  go_wp2_with fail
  simp only [eq]
  clear e1 e2 e3 e4 e5 e6 e7 eq er qy0 qy1 q0
  go_loop [15, 16] (fun a b => ∃ q r : Int, a = .int .u64 q ∧ b = .int .u64 r ∧ Hid (Dig u v1 Y y1 q r)) (fun a _ => (intOf a).toNat)
  case atStart => exact ⟨_, _, rfl, rfl, Hd⟩
  case round =>
    clear Hd
    obtain ⟨q, r, rfl, rfl, Hd⟩ := hrel
    have q0 := Hd.out.1
    have q1 := Hd.out.2.1
    have r0 := Hd.out.2.2.2.2.1
    have r1 := Hd.out.2.2.2.2.2
    by_cases hq : 4294967296 ≤ q
    · have l1 := (Hd.out.less Hp.out (.inl hq)).1
      by_cases hb : 4294967296 ≤ r + y1
      · have e := Hd.out.stop Hp.out (.inl hq) hb
        obtain rfl : q = Q + 1 := e.trans (by rw [HQ.out])
        clear e
        have e21 := H21.out
        have eq2 := Hq2.out
        have er2 := Hr2.out
        go_wp2_with fail
        try simp only [eq2]
        clear e21 eq2 er2 Hd hq hb l1 q0 q1 r0 r1
        go_loop [18, 16] (fun a b => ∃ q r : Int, a = .int .u64 q ∧ b = .int .u64 r ∧ Hid (Dig R v0 Y y1 q r)) (fun a _ => (intOf a).toNat)
        case atStart => exact ⟨_, _, rfl, rfl, Hd2⟩
        case round =>
          clear Hd2
          obtain ⟨q, r, rfl, rfl, Hd⟩ := hrel
          have q0 := Hd.out.1
          have q1 := Hd.out.2.1
          have r0 := Hd.out.2.2.2.2.1
          have r1 := Hd.out.2.2.2.2.2
          by_cases hq : 4294967296 ≤ q
          · have l1 := (Hd.out.less Hp2.out (.inl hq)).1
            by_cases hb : 4294967296 ≤ r + y1
            · have e := Hd.out.stop Hp2.out (.inl hq) hb
              have Hd3 : ∃ d, d = (R * 4294967296 + v0) / Y := ⟨_, rfl⟩
              obtain ⟨d, hd⟩ := Hd3
              obtain ⟨k0, k1, k2⟩ := Hn.out d hd
              obtain rfl : q = d + 1 := e.trans (by rw [hd])
              have Hk : Hid (Q * 4294967296 + d = (hi * 18446744073709551616 + lo) / y) := k2
              clear e hd k2
              go_wp2
              go_ret2
              exact ⟨⟨_, ret_pair Hk.out⟩, New.refl _⟩
            · have nx := Hd.out.next Hp2.out (.inl hq) (by omega)
              have Hx : Hid (Dig R v0 Y y1 (q - 1) (r + y1)) := nx
              clear nx
              go_wp2
              go_round
              case rel => exact ⟨_, _, rfl, rfl, Hx⟩
              case measure => simp only [intOf]; omega
          · obtain ⟨f0, f1⟩ := Knuth.fits q0 (by omega) y0lo y0hi
            by_cases ht : 4294967296 * r + v0 < q * y0
            · have l1 := (Hd.out.less Hp2.out (.inr ht)).1
              by_cases hb : 4294967296 ≤ r + y1
              · have e := Hd.out.stop Hp2.out (.inr ht) hb
                have Hd3 : ∃ d, d = (R * 4294967296 + v0) / Y := ⟨_, rfl⟩
                obtain ⟨d, hd⟩ := Hd3
                obtain ⟨k0, k1, k2⟩ := Hn.out d hd
                obtain rfl : q = d + 1 := e.trans (by rw [hd])
                have Hk : Hid (Q * 4294967296 + d = (hi * 18446744073709551616 + lo) / y) := k2
                clear e hd k2
                go_wp2
                go_ret2
                exact ⟨⟨_, ret_pair Hk.out⟩, New.refl _⟩
              · have nx := Hd.out.next Hp2.out (.inr ht) (by omega)
                have Hx : Hid (Dig R v0 Y y1 (q - 1) (r + y1)) := nx
                clear nx
                go_wp2
                go_round
                case rel => exact ⟨_, _, rfl, rfl, Hx⟩
                case measure => simp only [intOf]; omega
            · have e := Hd.out.out Hp2.out ht
              have Hd3 : ∃ d, d = (R * 4294967296 + v0) / Y := ⟨_, rfl⟩
              obtain ⟨d, hd⟩ := Hd3
              obtain ⟨k0, k1, k2⟩ := Hn.out d hd
              obtain rfl : d = q := (e.trans (by rw [hd])).symm
              have Hk : Hid (Q * 4294967296 + d = (hi * 18446744073709551616 + lo) / y) := k2
              clear e hd k2
              go_wp2
              go_ret2
              exact ⟨⟨_, ret_pair Hk.out⟩, New.refl _⟩
      · have nx := Hd.out.next Hp.out (.inl hq) (by omega)
        have Hx : Hid (Dig u v1 Y y1 (q - 1) (r + y1)) := nx
        clear nx
        go_wp2
        go_round
        case rel => exact ⟨_, _, rfl, rfl, Hx⟩
        case measure => simp only [intOf]; omega
    · obtain ⟨f0, f1⟩ := Knuth.fits q0 (by omega) y0lo y0hi
      by_cases ht : 4294967296 * r + v1 < q * y0
      · have l1 := (Hd.out.less Hp.out (.inr ht)).1
        by_cases hb : 4294967296 ≤ r + y1
        · have e := Hd.out.stop Hp.out (.inr ht) hb
          obtain rfl : q = Q + 1 := e.trans (by rw [HQ.out])
          clear e
          have e21 := H21.out
          have eq2 := Hq2.out
          have er2 := Hr2.out
          go_wp2_with fail
          try simp only [eq2]
          clear e21 eq2 er2 Hd hq ht f0 f1 hb l1 q0 q1 r0 r1
          go_loop [18, 16] (fun a b => ∃ q r : Int, a = .int .u64 q ∧ b = .int .u64 r ∧ Hid (Dig R v0 Y y1 q r)) (fun a _ => (intOf a).toNat)
          case atStart => exact ⟨_, _, rfl, rfl, Hd2⟩
          case round =>
            clear Hd2
            obtain ⟨q, r, rfl, rfl, Hd⟩ := hrel
            have q0 := Hd.out.1
            have q1 := Hd.out.2.1
            have r0 := Hd.out.2.2.2.2.1
            have r1 := Hd.out.2.2.2.2.2
            by_cases hq : 4294967296 ≤ q
            · have l1 := (Hd.out.less Hp2.out (.inl hq)).1
              by_cases hb : 4294967296 ≤ r + y1
              · have e := Hd.out.stop Hp2.out (.inl hq) hb
                have Hd3 : ∃ d, d = (R * 4294967296 + v0) / Y := ⟨_, rfl⟩
                obtain ⟨d, hd⟩ := Hd3
                obtain ⟨k0, k1, k2⟩ := Hn.out d hd
                obtain rfl : q = d + 1 := e.trans (by rw [hd])
                have Hk : Hid (Q * 4294967296 + d = (hi * 18446744073709551616 + lo) / y) := k2
                clear e hd k2
                go_wp2
                go_ret2
                exact ⟨⟨_, ret_pair Hk.out⟩, New.refl _⟩
              · have nx := Hd.out.next Hp2.out (.inl hq) (by omega)
                have Hx : Hid (Dig R v0 Y y1 (q - 1) (r + y1)) := nx
                clear nx
                go_wp2
                go_round
                case rel => exact ⟨_, _, rfl, rfl, Hx⟩
                case measure => simp only [intOf]; omega
            · obtain ⟨f0, f1⟩ := Knuth.fits q0 (by omega) y0lo y0hi
              by_cases ht : 4294967296 * r + v0 < q * y0
              · have l1 := (Hd.out.less Hp2.out (.inr ht)).1
                by_cases hb : 4294967296 ≤ r + y1
                · have e := Hd.out.stop Hp2.out (.inr ht) hb
                  have Hd3 : ∃ d, d = (R * 4294967296 + v0) / Y := ⟨_, rfl⟩
                  obtain ⟨d, hd⟩ := Hd3
                  obtain ⟨k0, k1, k2⟩ := Hn.out d hd
                  obtain rfl : q = d + 1 := e.trans (by rw [hd])
                  have Hk : Hid (Q * 4294967296 + d = (hi * 18446744073709551616 + lo) / y) := k2
                  clear e hd k2
                  go_wp2
                  go_ret2
                  exact ⟨⟨_, ret_pair Hk.out⟩, New.refl _⟩
                · have nx := Hd.out.next Hp2.out (.inr ht) (by omega)
                  have Hx : Hid (Dig R v0 Y y1 (q - 1) (r + y1)) := nx
                  clear nx
                  go_wp2
                  go_round
                  case rel => exact ⟨_, _, rfl, rfl, Hx⟩
                  case measure => simp only [intOf]; omega
              · have e := Hd.out.out Hp2.out ht
                have Hd3 : ∃ d, d = (R * 4294967296 + v0) / Y := ⟨_, rfl⟩
                obtain ⟨d, hd⟩ := Hd3
                obtain ⟨k0, k1, k2⟩ := Hn.out d hd
                obtain rfl : d = q := (e.trans (by rw [hd])).symm
                have Hk : Hid (Q * 4294967296 + d = (hi * 18446744073709551616 + lo) / y) := k2
                clear e hd k2
                go_wp2
                go_ret2
                exact ⟨⟨_, ret_pair Hk.out⟩, New.refl _⟩
        · have nx := Hd.out.next Hp.out (.inr ht) (by omega)
          have Hx : Hid (Dig u v1 Y y1 (q - 1) (r + y1)) := nx
          clear nx
          go_wp2
          go_round
          case rel => exact ⟨_, _, rfl, rfl, Hx⟩
          case measure => simp only [intOf]; omega
      · have e := Hd.out.out Hp.out ht
        obtain rfl : Q = q := (e.trans (by rw [HQ.out])).symm
        clear e
        have e21 := H21.out
        have eq2 := Hq2.out
        have er2 := Hr2.out
        go_wp2_with fail
        try simp only [eq2]
        clear e21 eq2 er2 Hd hq ht f0 f1 q0 q1 r0 r1
        go_loop [18, 16] (fun a b => ∃ q r : Int, a = .int .u64 q ∧ b = .int .u64 r ∧ Hid (Dig R v0 Y y1 q r)) (fun a _ => (intOf a).toNat)
        case atStart => exact ⟨_, _, rfl, rfl, Hd2⟩
        case round =>
          clear Hd2
          obtain ⟨q, r, rfl, rfl, Hd⟩ := hrel
          have q0 := Hd.out.1
          have q1 := Hd.out.2.1
          have r0 := Hd.out.2.2.2.2.1
          have r1 := Hd.out.2.2.2.2.2
          by_cases hq : 4294967296 ≤ q
          · have l1 := (Hd.out.less Hp2.out (.inl hq)).1
            by_cases hb : 4294967296 ≤ r + y1
            · have e := Hd.out.stop Hp2.out (.inl hq) hb
              have Hd3 : ∃ d, d = (R * 4294967296 + v0) / Y := ⟨_, rfl⟩
              obtain ⟨d, hd⟩ := Hd3
              obtain ⟨k0, k1, k2⟩ := Hn.out d hd
              obtain rfl : q = d + 1 := e.trans (by rw [hd])
              have Hk : Hid (Q * 4294967296 + d = (hi * 18446744073709551616 + lo) / y) := k2
              clear e hd k2
              go_wp2
              go_ret2
              exact ⟨⟨_, ret_pair Hk.out⟩, New.refl _⟩
            · have nx := Hd.out.next Hp2.out (.inl hq) (by omega)
              have Hx : Hid (Dig R v0 Y y1 (q - 1) (r + y1)) := nx
              clear nx
              go_wp2
              go_round
              case rel => exact ⟨_, _, rfl, rfl, Hx⟩
              case measure => simp only [intOf]; omega
          · obtain ⟨f0, f1⟩ := Knuth.fits q0 (by omega) y0lo y0hi
            by_cases ht : 4294967296 * r + v0 < q * y0
            · have l1 := (Hd.out.less Hp2.out (.inr ht)).1
              by_cases hb : 4294967296 ≤ r + y1
              · have e := Hd.out.stop Hp2.out (.inr ht) hb
                have Hd3 : ∃ d, d = (R * 4294967296 + v0) / Y := ⟨_, rfl⟩
                obtain ⟨d, hd⟩ := Hd3
                obtain ⟨k0, k1, k2⟩ := Hn.out d hd
                obtain rfl : q = d + 1 := e.trans (by rw [hd])
                have Hk : Hid (Q * 4294967296 + d = (hi * 18446744073709551616 + lo) / y) := k2
                clear e hd k2
                go_wp2
                go_ret2
                exact ⟨⟨_, ret_pair Hk.out⟩, New.refl _⟩
              · have nx := Hd.out.next Hp2.out (.inr ht) (by omega)
                have Hx : Hid (Dig R v0 Y y1 (q - 1) (r + y1)) := nx
                clear nx
                go_wp2
                go_round
                case rel => exact ⟨_, _, rfl, rfl, Hx⟩
                case measure => simp only [intOf]; omega
            · have e := Hd.out.out Hp2.out ht
              have Hd3 : ∃ d, d = (R * 4294967296 + v0) / Y := ⟨_, rfl⟩
              obtain ⟨d, hd⟩ := Hd3
              obtain ⟨k0, k1, k2⟩ := Hn.out d hd
              obtain rfl : d = q := (e.trans (by rw [hd])).symm
              have Hk : Hid (Q * 4294967296 + d = (hi * 18446744073709551616 + lo) / y) := k2
              clear e hd k2
              go_wp2
              go_ret2
              exact ⟨⟨_, ret_pair Hk.out⟩, New.refl _⟩
end Go.Proofs.Ytmcklibhfkhdhaa
