/-
  The walk of FnTrees, the program's contracts given. By the verifier, by program.
-/
import Derived.Test.YtfdapmchpikfiaaM7NdDrawP
import Derived.Test.YtfdapmchpikfiaaM6NdDrawO
import Derived.Test.YtfdapmchpikfiaaNdPayS
import Derived.Test.YtfdapmchpikfiaaNdFacts
import Derived.Test.YtfdapmchpikfiaaM9NdV
import Derived.Test.YtfdapmchpikfiaaM8IntV
import Derived.Test.YtfdapmchpikfiaaM3LikeNd
import Derived.Test.YtfdapmchpikfiaaM1LikeHas
import Derived.BigQuiet
namespace Go.Proofs.Ytfdapmchpikfiaa
open Go.RowKit

/-- What lies: two trees, what is left of the first, a path of the second. -/
structure TrL (w : World) (tv : Value) (t : List Nd) (xv : Value) (x : List Nd) (av : Value) (a : List Nd) (pv : Value) (p : List Int) (W : World) : Prop where
  t : NdsV W tv t
  x : NdsV W xv x
  a : NdsV W av a
  p : IntsV W pv p
  bel : Below w.heap.size w W
theorem TrL.below {w : World} {tv xv av pv : Value} {t x a : List Nd} {p : List Int} {W W' : World} (h : TrL w tv t xv x av a pv p W) (g : Below W.heap.size W W') : TrL w tv t xv x av a pv p W' :=
  ⟨h.t.below g, h.x.below g, h.a.below g, h.p.below g, h.bel.trans (g.mono h.bel.size)⟩
theorem NdsV.of_row {b : Nat} {w : World} {v : Value} {l : List Nd} (h : NdRow b w v l) : NdsV w v l := (NdsW.of_row h).at
theorem IntsV.of_row {b : Nat} {w : World} {v : Value} {l : List Int} (h : IRow b w v l) : IntsV w v l := (IntsW.of_row h).at
theorem NdsV.spot {w : World} {a : Option Addr} {n c : Nat} {l : List Nd} (h : NdsV w (.slice a n c) l) : l.length = n ∧ NdsAt w a l := by
  obtain ⟨a', c', e, h1, _⟩ := h
  cases e
  exact ⟨rfl, h1⟩
theorem IntsV.spot {w : World} {a : Option Addr} {n c : Nat} {l : List Int} (h : IntsV w (.slice a n c) l) : l.length = n ∧ IntsAt w a l := by
  obtain ⟨a', c', e, h1, _⟩ := h
  cases e
  exact ⟨rfl, h1⟩

set_option maxHeartbeats 12800000 in
set_option maxRecDepth 100000 in
theorem fnTrees_law
    (ITK : ∀ (l : List Nd) (a : Option Addr) (cap : Nat) (w : World), l.length ≤ 1048576 → l.length ≤ cap → (a = none → cap = 0) → Hid (NdsAt w a l) → Calls Try.prog 17 #[.slice a l.length cap] w fun e w' => e = .returned (.bool (tok l)) ∧ Below w.heap.size w w')
    (IPA : ∀ (a : Option Addr) (c : Nat) (r : List Nd) (n : Int) (size : Int) (w : World), r.length ≤ 1048576 → r.length ≤ c → (a = none → c = 0) → Hid (NdsAt w a r) → Calls Try.prog 8 #[.slice a r.length c, .int .i64 n, .int .i64 size] w fun e w' => (∃ v', e = .returned (.tuple #[v', .bool (can r n size)]) ∧ NdRow w.heap.size w' v' (paid r n size)) ∧ Below w.heap.size w w')
    (ICA : ∀ (l : List Nd) (a : Option Addr) (cap : Nat) (n : Int) (size : Int) (w : World), l.length ≤ 1048576 → l.length ≤ cap → (a = none → cap = 0) → Hid (NdsAt w a l) → Calls Try.prog 9 #[.slice a l.length cap, .int .i64 n, .int .i64 size] w fun e w' => e = .returned (.bool (can l n size)) ∧ Below w.heap.size w w')
    (IPO : ∀ (a : Option Addr) (c : Nat) (r : List Nd) (n : Int) (w : World), r.length ≤ 1048576 → r.length ≤ c → (a = none → c = 0) → Hid (NdsAt w a r) → Calls Try.prog 11 #[.slice a r.length c, .int .i64 n] w fun e w' => (∃ v', e = .returned v' ∧ IRow w.heap.size w' v' (pathOf r n)) ∧ Below w.heap.size w w')
    (a : Option Addr) (len cap : Nat) (w : World)
    (hcode : ∀ k, k < len → ∃ b off z, a = some ⟨b, off, none⟩ ∧ b < w.heap.size ∧ w.cell? ⟨b, off + k, none⟩ = some (.int .u8 z) ∧ 0 ≤ z ∧ z ≤ 255) :
    Calls Try.prog 3 #[.slice a len cap] w fun e w' => e = .returned (.bool true) ∧ Below w.heap.size w w' := by
  by_cases hbig : 4096 < len
  · clear hcode
    go_enter Try.func3, Try.ntmps3
    go_wp2
    go_ret
    exact ⟨rfl, Below.refl _ _⟩
  have hc : Hid (Code w a len) := ⟨by omega, hcode⟩
  have hb : Hid (Below w.heap.size w w) := Below.refl _ _
  have TK' : Hid (∀ (l : List Nd) (v : Value) (W : World), l.length ≤ 1048576 → NdsV W v l → Calls Try.prog 17 #[v] W fun e w' => e = .returned (.bool (tok l)) ∧ Below W.heap.size W w') := fun l v W hT hv => by
    obtain ⟨a, c, rfl, h, hc, hn⟩ := hv
    exact ITK l a c W hT hc hn h
  have STK' : Hid (∀ (l : List Nd) (v : Value) (W : World), l.length ≤ 1048576 → NdsV W v l → Calls Try.prog 18 #[v] W fun e w' => e = .returned (.bool (tok l)) ∧ Below W.heap.size W w') := fun l v W hT hv => by
    obtain ⟨a, c, rfl, h, hc, hn⟩ := hv
    exact specTreeOk a c l W hT h
  have PA' : Hid (∀ (l : List Nd) (v : Value) (n size : Int) (W : World), l.length ≤ 1048576 → NdsV W v l → Calls Try.prog 8 #[v, .int .i64 n, .int .i64 size] W fun e w' => (∃ p q, e = .returned (.tuple #[.slice p (paid l n size).length q, .bool (can l n size)]) ∧ NdsV w' (.slice p (paid l n size).length q) (paid l n size)) ∧ Below W.heap.size W w') := fun l v n size W hT hv => by
    obtain ⟨a, c, rfl, h, hc, hn⟩ := hv
    refine (IPA a c l n size W hT hc hn h).mono fun e w' hh => ?_
    obtain ⟨⟨v, rfl, r⟩, q⟩ := hh
    obtain ⟨p, q', rfl⟩ := r.shape
    exact ⟨⟨p, q', rfl, .of_row r⟩, q⟩
  have SPA' : Hid (∀ (l : List Nd) (v : Value) (n size : Int) (W : World), l.length ≤ 1048576 → NdsV W v l → Calls Try.prog 12 #[v, .int .i64 n, .int .i64 size] W fun e w' => (∃ p q, e = .returned (.tuple #[.slice p (paid l n size).length q, .bool (can l n size)]) ∧ NdsV w' (.slice p (paid l n size).length q) (paid l n size)) ∧ Below W.heap.size W w') := fun l v n size W hT hv => by
    obtain ⟨a, c, rfl, h, hc, hn⟩ := hv
    refine (specPaid a c l n size W hT hn h).mono fun e w' hh => ?_
    obtain ⟨⟨v, rfl, r⟩, q⟩ := hh
    obtain ⟨p, q', rfl⟩ := r.shape
    exact ⟨⟨p, q', rfl, .of_row r⟩, q⟩
  have CA' : Hid (∀ (l : List Nd) (v : Value) (n size : Int) (W : World), l.length ≤ 1048576 → NdsV W v l → Calls Try.prog 9 #[v, .int .i64 n, .int .i64 size] W fun e w' => e = .returned (.bool (can l n size)) ∧ Below W.heap.size W w') := fun l v n size W hT hv => by
    obtain ⟨a, c, rfl, h, hc, hn⟩ := hv
    exact ICA l a c n size W hT hc hn h
  have SCA' : Hid (∀ (l : List Nd) (v : Value) (n size : Int) (W : World), l.length ≤ 1048576 → NdsV W v l → Calls Try.prog 14 #[v, .int .i64 n, .int .i64 size] W fun e w' => e = .returned (.bool (can l n size)) ∧ Below W.heap.size W w') := fun l v n size W hT hv => by
    obtain ⟨a, c, rfl, h, hc, hn⟩ := hv
    exact specCan a c l n size W hT h
  have PO' : Hid (∀ (l : List Nd) (v : Value) (n : Int) (W : World), l.length ≤ 1048576 → NdsV W v l → Calls Try.prog 11 #[v, .int .i64 n] W fun e w' => (∃ p q, e = .returned (.slice p (pathOf l n).length q) ∧ IntsV w' (.slice p (pathOf l n).length q) (pathOf l n)) ∧ Below W.heap.size W w') := fun l v n W hT hv => by
    obtain ⟨a, c, rfl, h, hc, hn⟩ := hv
    refine (IPO a c l n W hT hc hn h).mono fun e w' hh => ?_
    obtain ⟨⟨v, rfl, r⟩, q⟩ := hh
    obtain ⟨p, q', rfl⟩ := r.shape
    exact ⟨⟨p, q', rfl, .of_row r⟩, q⟩
  have SPO' : Hid (∀ (l : List Nd) (v : Value) (n : Int) (W : World), l.length ≤ 1048576 → NdsV W v l → Calls Try.prog 16 #[v, .int .i64 n] W fun e w' => (∃ p q, e = .returned (.slice p (pathOf l n).length q) ∧ IntsV w' (.slice p (pathOf l n).length q) (pathOf l n)) ∧ Below W.heap.size W w') := fun l v n W hT hv => by
    obtain ⟨a, c, rfl, h, hc, hn⟩ := hv
    refine (specPathOf a c l n W hT h).mono fun e w' hh => ?_
    obtain ⟨⟨v, rfl, r⟩, q⟩ := hh
    obtain ⟨p, q', rfl⟩ := r.shape
    exact ⟨⟨p, q', rfl, .of_row r⟩, q⟩
  have LT' : Hid (∀ (l : List Nd) (v1 v2 : Value) (W : World), l.length ≤ 1048576 → NdsV W v1 l → NdsV W v2 l → Calls Try.prog 13 #[v1, v2] W fun e w' => e = .returned (.bool true) ∧ Below W.heap.size W w') := fun l v1 v2 W hT h1 h2 => by
    obtain ⟨a1, c1, rfl, h1, _⟩ := h1
    obtain ⟨a2, c2, rfl, h2, _⟩ := h2
    exact likeNds a1 a2 c1 c2 l W hT h1 h2
  have LI' : Hid (∀ (l : List Int) (v1 v2 : Value) (W : World), l.length ≤ 1048576 → IntsV W v1 l → IntsV W v2 l → Calls Try.prog 15 #[v1, v2] W fun e w' => e = .returned (.bool true) ∧ Below W.heap.size W w') := fun l v1 v2 W hT h1 h2 => by
    obtain ⟨a1, c1, rfl, h1, _⟩ := h1
    obtain ⟨a2, c2, rfl, h2, _⟩ := h2
    exact likeInts a1 a2 c1 c2 l W hT h1 h2
  have HA' : Hid (∀ (l : List Int) (v : Value) (x : Int) (W : World), l.length ≤ 1048576 → IntsV W v l → Calls Try.prog 19 #[v, .int .i64 x] W fun e w' => e = .returned (.bool (decide (x ∈ l))) ∧ w' = W) := fun l v x W hT h1 => by
    obtain ⟨a1, c1, rfl, h1, _⟩ := h1
    exact hasInts a1 c1 l x W hT h1
  clear hcode ITK IPA ICA IPO
  go_enter Try.func3, Try.ntmps3
  go_wp2_with (go_at_call 6; go_in)
  refine (dDrawPaid hc _ hb).mono ?_
  rintro e w1 ⟨⟨v, tl, n, size, rfl, r1, hl, hn, hs⟩, q⟩
  obtain ⟨tp, tq, rfl⟩ := r1.shape
  obtain ⟨tn, htn⟩ : ∃ n, tl.length = n := ⟨_, rfl⟩
  have B1 : Hid (NdsV w1 (.slice tp tn tq) tl ∧ Below w.heap.size w w1) := ⟨by rw [← htn]; exact .of_row r1, q⟩
  have Htn : Hid (tl.length = tn ∧ tl.length ≤ 1048576) := ⟨htn, by omega⟩
  have hsz : -1 ≤ size ∧ size ≤ 60 := hs
  rw [htn]
  rw [htn] at hl
  clear r1 q htn hs
  -- what is paid
  obtain ⟨X, hX⟩ : ∃ X, X = paid tl n size := ⟨_, rfl⟩
  obtain ⟨is, his⟩ : ∃ X, X = can tl n size := ⟨_, rfl⟩
  have C1 := fun v W h => PA'.out tl v n size W Htn.out.2 h
  have C1s := fun v W h => SPA'.out tl v n size W Htn.out.2 h
  have C2 := fun v W h => CA'.out tl v n size W Htn.out.2 h
  have C2s := fun v W h => SCA'.out tl v n size W Htn.out.2 h
  rw [← hX, ← his] at C1 C1s
  rw [← his] at C2 C2s
  have HX : Hid ((tok tl = false → X = []) ∧ (tok tl = true → is = false → X = tl) ∧ (is = true → tok tl = true ∧ X.length = tn ∧ tok X = true ∧ pathOf tl n = path tl n ∧ (∀ k, k < tn → (ndAt X k).pz.level = (ndAt tl k).pz.level - (if (k : Int) ∈ path tl n then size else 0) ∧ 0 ≤ size ∧ 0 ≤ (ndAt tl k).pz.level ∧ (ndAt tl k).pz.level ≤ 100000))) := by
    refine ⟨fun e => ?_, fun e e2 => ?_, fun e => ?_⟩
    · rw [hX, paid_no (by unfold can tin; rw [e]; rfl), e]; rfl
    · rw [hX, paid_no (by rw [← his]; exact e2), if_pos e]
    · have h := e
      rw [his] at h
      refine ⟨(paid_is h).1, by rw [hX, (paid_is h).2.1]; exact Htn.out.1, by rw [hX]; exact paid_tok h, by unfold pathOf; rw [if_pos (can_iff.1 h).1], fun k hk => ?_⟩
      have := paid_level h (k := k) (by rw [Htn.out.1]; exact hk)
      rw [hX]
      exact ⟨this.1, this.2.1, this.2.2.2⟩
  have HXb : Hid (X.length ≤ 1048576) := by show X.length ≤ 1048576; rw [hX]; exact Nat.le_trans (paid_len tl n size) Htn.out.2
  obtain ⟨xn, hxn⟩ : ∃ n, X.length = n := ⟨_, rfl⟩
  rw [hxn] at C1 C1s
  have Hxn : Hid (X.length = xn) := hxn
  have C1' : Hid _ := C1
  have C1s' : Hid _ := C1s
  have C2' : Hid _ := C2
  have C2s' : Hid _ := C2s
  clear hX his C1 C1s C2 C2s hxn PA' SPA' CA' SCA'
  go_wp2_with fail
  refine (C1'.out _ _ B1.out.1).mono ?_
  rintro e w2 ⟨⟨xp, xq, rfl, i1⟩, q⟩
  have B2 : Hid (NdsV w2 (.slice tp tn tq) tl ∧ NdsV w2 (.slice xp xn xq) X ∧ Below w.heap.size w w2) := ⟨B1.out.1.below q, i1, B1.out.2.trans (q.mono B1.out.2.size)⟩
  clear q i1 B1 C1'
  go_wp2_with fail
  refine (C2'.out _ _ B2.out.1).mono ?_
  rintro e w3 ⟨rfl, q⟩
  have B3 : Hid (NdsV w3 (.slice tp tn tq) tl ∧ NdsV w3 (.slice xp xn xq) X ∧ Below w.heap.size w w3) := ⟨B2.out.1.below q, B2.out.2.1.below q, B2.out.2.2.trans (q.mono B2.out.2.2.size)⟩
  clear q B2 C2'
  have b3 : Hid (Below w.heap.size w w3) := B3.out.2.2
  go_wp2_with fail
  refine (dDrawPathOf hc _ b3).mono ?_
  rintro e w4 ⟨⟨v, al, k, rfl, r1, ha, hk⟩, q⟩
  obtain ⟨ap, aq, rfl⟩ := r1.shape
  obtain ⟨an, han⟩ : ∃ n, al.length = n := ⟨_, rfl⟩
  have B4 : Hid (NdsV w4 (.slice tp tn tq) tl ∧ NdsV w4 (.slice xp xn xq) X ∧ NdsV w4 (.slice ap an aq) al ∧ Below w.heap.size w w4) := ⟨B3.out.1.below q, B3.out.2.1.below q, by rw [← han]; exact .of_row r1, B3.out.2.2.trans (q.mono B3.out.2.2.size)⟩
  have Han : Hid (al.length = an ∧ al.length ≤ 1048576) := ⟨han, by omega⟩
  rw [han]
  rw [han] at ha
  clear r1 q han B3 b3
  have C3 := fun v W h => PO'.out al v k W Han.out.2 h
  have C3s := fun v W h => SPO'.out al v k W Han.out.2 h
  obtain ⟨P, hP⟩ : ∃ P, P = pathOf al k := ⟨_, rfl⟩
  rw [← hP] at C3 C3s
  have HP : Hid (0 < P.length → tin al k = true ∧ P = path al k) := fun h => by
    rw [hP] at h ⊢
    exact pathOf_in h
  have HPb : Hid (P.length ≤ 12) := by show P.length ≤ 12; rw [hP]; exact pathOf_len al k
  obtain ⟨pn, hpn⟩ : ∃ n, P.length = n := ⟨_, rfl⟩
  rw [hpn] at C3 C3s HP
  have Hpn : Hid (P.length = pn) := hpn
  have hpn12 : pn ≤ 12 := by have := HPb.out; omega
  have C3' : Hid _ := C3
  have C3s' : Hid _ := C3s
  clear hP C3 C3s hpn SPO'
  go_wp2_with fail
  refine (C3'.out _ _ B4.out.2.2.1).mono ?_
  rintro e w5 ⟨⟨pp, pq, rfl, i1⟩, q⟩
  have Z5 : Hid (TrL w (.slice tp tn tq) tl (.slice xp xn xq) X (.slice ap an aq) al (.slice pp pn pq) P w5) := ⟨B4.out.1.below q, B4.out.2.1.below q, B4.out.2.2.1.below q, i1, B4.out.2.2.2.trans (q.mono B4.out.2.2.2.size)⟩
  clear q i1 B4 C3'
  go_wp2_with fail
  refine (C1s'.out _ _ Z5.out.t).mono ?_
  rintro e w6 ⟨⟨yp, yq, rfl, i1⟩, q⟩
  have Z6 : Hid (TrL w (.slice tp tn tq) tl (.slice xp xn xq) X (.slice ap an aq) al (.slice pp pn pq) P w6 ∧ NdsV w6 (.slice yp xn yq) X) := ⟨Z5.out.below q, i1⟩
  clear q i1 Z5 C1s'
  go_wp2_with fail
  refine (LT'.out X _ _ _ HXb.out Z6.out.1.x Z6.out.2).mono ?_
  rintro e w7 ⟨rfl, q⟩
  have Z7 : Hid (TrL w (.slice tp tn tq) tl (.slice xp xn xq) X (.slice ap an aq) al (.slice pp pn pq) P w7) := Z6.out.1.below q
  clear q Z6
  go_wp2_with fail
  refine (C2s'.out _ _ Z7.out.t).mono ?_
  rintro e w8 ⟨rfl, q⟩
  have Z8 : Hid (TrL w (.slice tp tn tq) tl (.slice xp xn xq) X (.slice ap an aq) al (.slice pp pn pq) P w8) := Z7.out.below q
  clear q Z7 C2s'
  go_wp2_with fail
  refine (C3s'.out _ _ Z8.out.a).mono ?_
  rintro e w9 ⟨⟨zp, zq, rfl, i1⟩, q⟩
  have Z9 : Hid (TrL w (.slice tp tn tq) tl (.slice xp xn xq) X (.slice ap an aq) al (.slice pp pn pq) P w9 ∧ IntsV w9 (.slice zp pn zq) P) := ⟨Z8.out.below q, i1⟩
  clear q i1 Z8 C3s'
  go_wp2_with fail
  refine (LI'.out P _ _ _ (Nat.le_trans HPb.out (by decide)) Z9.out.1.p Z9.out.2).mono ?_
  rintro e w10 ⟨rfl, q⟩
  have Z10 : Hid (TrL w (.slice tp tn tq) tl (.slice xp xn xq) X (.slice ap an aq) al (.slice pp pn pq) P w10) := Z9.out.1.below q
  clear q Z9 LI'
  have D1 := fun v W h => TK'.out tl v W Htn.out.2 h
  have D1s := fun v W h => STK'.out tl v W Htn.out.2 h
  obtain ⟨tk, htk⟩ : ∃ b, tok tl = b := ⟨_, rfl⟩
  rw [htk] at D1 D1s HX
  have D1' : Hid _ := D1
  have D1s' : Hid _ := D1s
  clear D1 D1s htk STK'
  go_wp2_with fail
  refine (D1'.out _ _ Z10.out.t).mono ?_
  rintro e w11 ⟨rfl, q⟩
  have Z11 : Hid (TrL w (.slice tp tn tq) tl (.slice xp xn xq) X (.slice ap an aq) al (.slice pp pn pq) P w11) := Z10.out.below q
  clear q Z10 D1'
  go_wp2_with fail
  refine (D1s'.out _ _ Z11.out.t).mono ?_
  rintro e w12 ⟨rfl, q⟩
  have Z12 : Hid (TrL w (.slice tp tn tq) tl (.slice xp xn xq) X (.slice ap an aq) al (.slice pp pn pq) P w12) := Z11.out.below q
  clear q Z11
  go_wp2_with fail
  go_loopw [14] (fun s wr => ∃ i : Nat, i ≤ pn ∧ s = .int .i64 i ∧ Hid (TrL w (.slice tp tn tq) tl (.slice xp xn xq) X (.slice ap an aq) al (.slice pp pn pq) P wr)) (fun s _ => pn - (intOf s).toNat)
  case atStart => exact ⟨0, Nat.zero_le _, rfl, Z12⟩
  case round =>
    obtain ⟨i, hi, rfl, HK⟩ := hrel
    clear Z12
    obtain ⟨wo, rfl⟩ : ∃ wo, wo = wr := ⟨_, rfl⟩
    by_cases hlt : i < pn
    · have hlt' : (i : Int) < (pn : Int) := by omega
      obtain ⟨htin, hPe⟩ := HP.out (by omega)
      obtain ⟨b2, o2, ha2, -, -⟩ := HK.out.p.spot.2 i (by rw [Hpn.out]; exact hlt)
      subst ha2
      have PC : ∀ j, j < pn → wo.cell? ⟨b2, o2 + j, none⟩ = some (.int .i64 (P[j]?.getD 0)) := fun j hj => by
        obtain ⟨b, off, e, -, c⟩ := HK.out.p.spot.2 j (by rw [Hpn.out]; exact hj)
        cases e
        exact c
      obtain ⟨htk, k0, k1⟩ := tin_iff.1 htin
      have Bd : Hid (∀ nq, TrL w (.slice tp tn tq) tl (.slice xp xn xq) X (.slice ap an aq) al (.slice (some ⟨b2, o2, none⟩) pn pq) P (wo.drewN nq)) := fun nq => HK.out.below ⟨rfl, rfl, rfl, Nat.le_refl _, fun _ _ => rfl⟩
      by_cases hi0 : i = 0
      · subst hi0
        have c0 : wo.cell? ⟨b2, o2, none⟩ = some (.int .i64 k) := by
          have := PC 0 hlt
          rw [hPe, path_next htk k0 k1] at this
          simpa using this
        clear PC htk k0 k1 HP hPe htin HK
        go_upto_region 14 with fail
        go_quiet (fail)
        go_wp2
        go_roundw
        case rel => exact ⟨1, by omega, by go_num, Bd.out _⟩
        case measure => simp [intOf] <;> omega
      · obtain ⟨j, hj⟩ : ∃ j, j + 1 = i := ⟨i - 1, by omega⟩
        have hu := path_ups htk (by omega) k1 j (by rw [← hPe, hj, Hpn.out]; exact hlt)
        rw [← hPe, hj] at hu
        obtain ⟨vn, hv1, hv2⟩ := path_spots htin j (by rw [← hPe, Hpn.out]; omega)
        rw [← hPe] at hv1
        have ci := PC i hlt
        have cj := PC j (by omega)
        rw [hv1] at hu cj
        rw [Int.toNat_natCast] at hu
        obtain ⟨b1, o1, ha1, -, -⟩ := HK.out.a.spot.2 vn hv2
        subst ha1
        have ca := (HK.out.a.spot.2.cells (k := vn) hv2).1
        rw [← hu.1] at ca
        generalize P[i]?.getD 0 = u at ci ca hu
        have hge : decide ((vn : Int) ≤ u) = false := decide_eq_false (by omega)
        have hva : (vn : Int) < (an : Int) := by have := Han.out.1; omega
        have hvn : vn < an := by omega
        have hjp : j < pn := by omega
        have kw : IntKind.i64.wrap ((i : Int) - 1) = (j : Int) := by rw [IntKind.wrap_i64]; omega
        have hip : (0 : Int) < (i : Int) := by omega
        have hip2 : 0 < i := by omega
        have hz : ((i : Int) == 0) = false := by simpa using hi0
        have Hi : Hid (j + 1 = i) := hj
        clear PC htk k0 k1 HP hPe htin HK hv1 hv2 hu hj hi0
        go_upto_region 14 with fail
        go_quiet (fail)
        go_wp2
        go_roundw
        case rel => exact ⟨i + 1, by omega, by go_num, Bd.out _⟩
        case measure => simp [intOf] <;> omega
    · obtain rfl : pn = i := by omega
      go_upto_region 16 with fail
      go_cut [147] (fun s wc => Hid (s = .bool false ∧ TrL w (.slice tp tn tq) tl (.slice xp xn xq) X (.slice ap an aq) al (.slice pp pn pq) P wc))
      case first =>
        by_cases hp0 : pn = 0
        · subst hp0
          go_wp2
          go_meet
          exact ⟨rfl, HK.out⟩
        · obtain ⟨htin, hPe⟩ := HP.out (by omega)
          obtain ⟨b2, o2, ha2, -, -⟩ := HK.out.p.spot.2 0 (by rw [Hpn.out]; omega)
          subst ha2
          obtain ⟨j, hj⟩ : ∃ j, j + 1 = pn := ⟨pn - 1, by omega⟩
          obtain ⟨htk, k0, k1⟩ := tin_iff.1 htin
          have cl : wo.cell? ⟨b2, o2 + j, none⟩ = some (.int .i64 0) := by
            obtain ⟨b, off, e, -, c⟩ := HK.out.p.spot.2 j (by rw [Hpn.out]; omega)
            cases e
            have := path_last htk k0 k1
            rw [← hPe, Hpn.out, show pn - 1 = j by omega] at this
            rw [this] at c
            exact c
          have hjp : j < pn := by omega
          have hip : (0 : Int) < (pn : Int) := by omega
          have hip2 : 0 < pn := by omega
          have kw : IntKind.i64.wrap ((pn : Int) - 1) = (j : Int) := by rw [IntKind.wrap_i64]; omega
          clear htk k0 k1 HP hPe htin hj hp0
          go_wp2
          go_meet
          exact ⟨rfl, HK.out⟩
      case rest =>
      obtain ⟨rfl, hz⟩ := hcut.out
      obtain ⟨w13, rfl⟩ : ∃ x, x = wc := ⟨_, rfl⟩
      have Z13 : Hid (TrL w (.slice tp tn tq) tl (.slice xp xn xq) X (.slice ap an aq) al (.slice pp pn pq) P w13) := hz
      clear hcut hz HK
      go_wp2_with fail
      refine (D1s'.out _ _ Z13.out.t).mono ?_
      rintro e w14 ⟨rfl, q⟩
      have Z14 : Hid (TrL w (.slice tp tn tq) tl (.slice xp xn xq) X (.slice ap an aq) al (.slice pp pn pq) P w14) := Z13.out.below q
      clear q Z13 D1s'
      cases tk
      · have e := HX.out.1 (by first | exact trivial | exact rfl)
        have e2 := Hxn.out
        rw [e] at e2
        obtain rfl : xn = 0 := by simpa using e2.symm
        have bl : Hid (Below w.heap.size w w14) := Z14.out.bel
        clear e e2 HX Z14
        go_wp2
        go_ret
        exact ⟨rfl, bl.out⟩
      cases is
      · have e := HX.out.2.1 (by first | exact trivial | exact rfl) (by first | exact trivial | exact rfl)
        clear HX
        subst e
        go_wp2_with fail
        refine (LT'.out X _ _ _ HXb.out Z14.out.x Z14.out.t).mono ?_
        rintro e w15 ⟨rfl, q⟩
        have bl : Hid (Below w.heap.size w w15) := Z14.out.bel.trans (q.mono Z14.out.bel.size)
        clear q Z14
        go_wp2
        go_ret
        exact ⟨rfl, bl.out⟩
      obtain ⟨-, y2, y3, y4, y5⟩ := HX.out.2.2 (by first | exact trivial | exact rfl)
      have C5 := fun v W h => PO'.out tl v n W Htn.out.2 h
      have D6 := fun v W h => TK'.out X v W HXb.out h
      rw [y3] at D6
      rw [y4] at C5
      have Hq : Hid ((path tl n).length ≤ 12) := by
        show (path tl n).length ≤ 12
        rw [← y4]
        exact pathOf_len tl n
      generalize path tl n = Q at C5 y5 Hq
      obtain ⟨qn, hqn⟩ : ∃ m, Q.length = m := ⟨_, rfl⟩
      rw [hqn] at C5
      have C5' : Hid _ := C5
      have D6' : Hid _ := D6
      have Y5 : Hid _ := y5
      have Hx2 : Hid (X.length = tn) := y2
      obtain rfl : tn = xn := y2.symm.trans Hxn.out
      clear C5 D6 y2 y3 y4 y5 HX hqn PO' TK' Hxn
      go_wp2_with fail
      refine (C5'.out _ _ Z14.out.t).mono ?_
      rintro e w15 ⟨⟨qp, qq, rfl, i1⟩, q⟩
      have Z15 : Hid (TrL w (.slice tp tn tq) tl (.slice xp tn xq) X (.slice ap an aq) al (.slice pp pn pq) P w15 ∧ IntsV w15 (.slice qp qn qq) Q) := ⟨Z14.out.below q, i1⟩
      clear q i1 Z14 C5'
      go_wp2_with fail
      go_loopw [16, 17] (fun s _ wr => ∃ i : Nat, i ≤ tn ∧ s = .int .i64 i ∧ Hid (TrL w (.slice tp tn tq) tl (.slice xp tn xq) X (.slice ap an aq) al (.slice pp pn pq) P wr ∧ IntsV wr (.slice qp qn qq) Q)) (fun s _ _ => tn - (intOf s).toNat)
      case atStart => exact ⟨0, Nat.zero_le _, rfl, Z15⟩
      case round =>
        obtain ⟨i, hi2, rfl, HK⟩ := hrel
        clear Z15
        obtain ⟨wp, rfl⟩ : ∃ wp, wp = wr := ⟨_, rfl⟩
        by_cases hlt2 : i < tn
        · have hlt' : (i : Int) < (tn : Int) := by omega
          have H := fun (_ : Nat) => HA'.out Q _ (i : Int) wp (Nat.le_trans Hq.out (by decide)) HK.out.2
          obtain ⟨z1, z2, z3, z4⟩ := Y5.out i hlt2
          obtain ⟨b1, o1, ha1, -, -⟩ := HK.out.1.t.spot.2 i (by rw [Htn.out.1]; exact hlt2)
          obtain ⟨b2, o2, ha2, -, -⟩ := HK.out.1.x.spot.2 i (by rw [Hx2.out]; exact hlt2)
          subst ha1; subst ha2
          have ct := (HK.out.1.t.spot.2.cells (k := i) (by rw [Htn.out.1]; exact hlt2)).2.2.2.1
          have cx := (HK.out.1.x.spot.2.cells (k := i) (by rw [Hx2.out]; exact hlt2)).2.2.2.1
          have Bd : Hid (∀ nq, (TrL w (.slice (some ⟨b1, o1, none⟩) tn tq) tl (.slice (some ⟨b2, o2, none⟩) tn xq) X (.slice ap an aq) al (.slice pp pn pq) P (wp.drewN nq) ∧ IntsV (wp.drewN nq) (.slice qp qn qq) Q)) := fun nq => ⟨HK.out.1.below ⟨rfl, rfl, rfl, Nat.le_refl _, fun _ _ => rfl⟩, HK.out.2.below ⟨rfl, rfl, rfl, Nat.le_refl _, fun _ _ => rfl⟩⟩
          rw [z1] at cx
          generalize (ndAt tl i).pz.level = lt at ct cx z3 z4
          clear z1 HK
          by_cases hin : (i : Int) ∈ Q
          · rw [if_pos hin] at cx
            rw [decide_eq_true hin] at H
            have H' : Hid _ := H
            have wz : IntKind.i64.wrap (lt - size) = lt - size := by rw [IntKind.wrap_i64]; omega
            clear H hin
            go_wp2_with fail
            refine (H'.out 0).mono ?_
            rintro e w16 ⟨rfl, rfl⟩
            go_upto_region 29 with fail
            go_quiet (fail)
            go_wp2
            go_roundw
            case rel => exact ⟨i + 1, by omega, by go_num, Bd.out _⟩
            case measure => simp [intOf] <;> omega
          · rw [if_neg hin, Int.sub_zero] at cx
            rw [decide_eq_false hin] at H
            have H' : Hid _ := H
            have wz : IntKind.i64.wrap lt = lt := by rw [IntKind.wrap_i64]; omega
            clear H hin
            go_wp2_with fail
            refine (H'.out 0).mono ?_
            rintro e w16 ⟨rfl, rfl⟩
            go_upto_region 29 with fail
            go_quiet (fail)
            go_wp2
            go_roundw
            case rel => exact ⟨i + 1, by omega, by go_num, Bd.out _⟩
            case measure => simp [intOf] <;> omega
        · obtain rfl : tn = i := by omega
          go_wp2_with fail
          refine (D6'.out _ _ HK.out.1.x).mono ?_
          rintro e w17 ⟨rfl, q⟩
          have bl : Hid (Below w.heap.size w w17) := HK.out.1.bel.trans (q.mono HK.out.1.bel.size)
          clear q HK
          go_wp2
          go_ret
          exact ⟨rfl, bl.out⟩
end Go.Proofs.Ytfdapmchpikfiaa
