/-
  The walk of FnWhenCan, the program's contracts given. By the verifier, by program.
-/
import Derived.Test.YtfdapmchpikfiaaM6NdDrawW
import Derived.Test.YtfdapmchpikfiaaM5NdDrawF
import Derived.Test.YtfdapmchpikfiaaNdFillS
import Derived.Test.YtfdapmchpikfiaaNdCanS
import Derived.Test.YtfdapmchpikfiaaNdFacts
import Derived.Test.YtfdapmchpikfiaaM8NdV
import Derived.Test.YtfdapmchpikfiaaM3LikeNd
import Derived.BigQuiet
namespace Go.Proofs.Ytfdapmchpikfiaa
open Go.RowKit

/-- What lies: two trees, the second one filled. -/
structure WcL (w : World) (tv : Value) (t : List Nd) (av : Value) (a : List Nd) (fv : Value) (f : List Nd) (W : World) : Prop where
  t : NdsV W tv t
  a : NdsV W av a
  f : NdsV W fv f
  bel : Below w.heap.size w W
theorem WcL.below {w : World} {tv av fv : Value} {t a f : List Nd} {W W' : World} (h : WcL w tv t av a fv f W) (g : Below W.heap.size W W') : WcL w tv t av a fv f W' :=
  ⟨h.t.below g, h.a.below g, h.f.below g, h.bel.trans (g.mono h.bel.size)⟩
theorem ndsV_row {b : Nat} {w : World} {v : Value} {l : List Nd} (h : NdRow b w v l) : NdsV w v l := (NdsW.of_row h).at
theorem ndsV_spot {w : World} {a : Option Addr} {n c : Nat} {l : List Nd} (h : NdsV w (.slice a n c) l) : l.length = n ∧ NdsAt w a l := by
  obtain ⟨a', c', e, h1, _⟩ := h
  cases e
  exact ⟨rfl, h1⟩

set_option maxHeartbeats 12800000 in
set_option maxRecDepth 100000 in
theorem fnWhenCan_law
    (ICA : ∀ (l : List Nd) (a : Option Addr) (cap : Nat) (n : Int) (size : Int) (w : World), l.length ≤ 1048576 → l.length ≤ cap → (a = none → cap = 0) → Hid (NdsAt w a l) → Calls Try.prog 9 #[.slice a l.length cap, .int .i64 n, .int .i64 size] w fun e w' => e = .returned (.bool (can l n size)) ∧ Below w.heap.size w w')
    (IWC : ∀ (l : List Nd) (a : Option Addr) (cap : Nat) (n : Int) (size : Int) (w : World), l.length ≤ 1048576 → l.length ≤ cap → (a = none → cap = 0) → size ≤ 9223372036854775807 → Hid (NdsAt w a l) → Calls Try.prog 21 #[.slice a l.length cap, .int .i64 n, .int .i64 size] w fun e w' => e = .returned (.int .i64 (whenCan l n size)) ∧ Below w.heap.size w w')
    (ITF : ∀ (a : Option Addr) (c : Nat) (r : List Nd) (now : Int) (w : World), r.length ≤ 1048576 → r.length ≤ c → (a = none → c = 0) → Hid (NdsAt w a r) → Calls Try.prog 23 #[.slice a r.length c, .int .i64 now] w fun e w' => (∃ v', e = .returned (v') ∧ NdRow w.heap.size w' v' (tfilled r now)) ∧ Below w.heap.size w w')
    (IFI : ∀ (l : Pz) (now : Int) (w : World), Calls Try.prog 26 #[l.val, .int .i64 now] w fun e w' => e = .returned (l.filled now).val ∧ Below w.heap.size w w')
    (a : Option Addr) (len cap : Nat) (w : World)
    (hcode : ∀ k, k < len → ∃ b off z, a = some ⟨b, off, none⟩ ∧ b < w.heap.size ∧ w.cell? ⟨b, off + k, none⟩ = some (.int .u8 z) ∧ 0 ≤ z ∧ z ≤ 255) :
    Calls Try.prog 4 #[.slice a len cap] w fun e w' => e = .returned (.bool true) ∧ Below w.heap.size w w' := by
  by_cases hbig : 4096 < len
  · clear hcode
    go_enter Try.func4, Try.ntmps4
    go_wp2
    go_ret
    exact ⟨rfl, Below.refl _ _⟩
  have hc : Hid (Code w a len) := ⟨by omega, hcode⟩
  have hb : Hid (Below w.heap.size w w) := Below.refl _ _
  have STK' : Hid (∀ (l : List Nd) (v : Value) (W : World), l.length ≤ 1048576 → NdsV W v l → Calls Try.prog 18 #[v] W fun e w' => e = .returned (.bool (tok l)) ∧ Below W.heap.size W w') := fun l v W hT hv => by
    obtain ⟨a, c, rfl, h, hc, hn⟩ := hv
    exact specTreeOk a c l W hT h
  have CA' : Hid (∀ (l : List Nd) (v : Value) (n size : Int) (W : World), l.length ≤ 1048576 → NdsV W v l → Calls Try.prog 9 #[v, .int .i64 n, .int .i64 size] W fun e w' => e = .returned (.bool (can l n size)) ∧ Below W.heap.size W w') := fun l v n size W hT hv => by
    obtain ⟨a, c, rfl, h, hc, hn⟩ := hv
    exact ICA l a c n size W hT hc hn h
  have WC' : Hid (∀ (l : List Nd) (v : Value) (n size : Int) (W : World), l.length ≤ 1048576 → size ≤ 60 → NdsV W v l → Calls Try.prog 21 #[v, .int .i64 n, .int .i64 size] W fun e w' => e = .returned (.int .i64 (whenCan l n size)) ∧ Below W.heap.size W w') := fun l v n size W hT hs hv => by
    obtain ⟨a, c, rfl, h, hc, hn⟩ := hv
    exact IWC l a c n size W hT hc hn (by omega) h
  have SWC' : Hid (∀ (l : List Nd) (v : Value) (n size : Int) (W : World), l.length ≤ 1048576 → size ≤ 60 → NdsV W v l → Calls Try.prog 24 #[v, .int .i64 n, .int .i64 size] W fun e w' => e = .returned (.int .i64 (whenCan l n size)) ∧ Below W.heap.size W w') := fun l v n size W hT hs hv => by
    obtain ⟨a, c, rfl, h, hc, hn⟩ := hv
    exact specWhenCan a c l n size W hT (by omega) h
  have TF' : Hid (∀ (l : List Nd) (v : Value) (now : Int) (W : World), l.length ≤ 1048576 → NdsV W v l → Calls Try.prog 23 #[v, .int .i64 now] W fun e w' => (∃ p q, e = .returned (.slice p (tfilled l now).length q) ∧ NdsV w' (.slice p (tfilled l now).length q) (tfilled l now)) ∧ Below W.heap.size W w') := fun l v now W hT hv => by
    obtain ⟨a, c, rfl, h, hc, hn⟩ := hv
    refine (ITF a c l now W hT hc hn h).mono fun e w' hh => ?_
    obtain ⟨⟨v, rfl, r⟩, q⟩ := hh
    obtain ⟨p, q', rfl⟩ := r.shape
    exact ⟨⟨p, q', rfl, ndsV_row r⟩, q⟩
  have STF' : Hid (∀ (l : List Nd) (v : Value) (now : Int) (W : World), l.length ≤ 1048576 → NdsV W v l → Calls Try.prog 25 #[v, .int .i64 now] W fun e w' => (∃ p q, e = .returned (.slice p (tfilled l now).length q) ∧ NdsV w' (.slice p (tfilled l now).length q) (tfilled l now)) ∧ Below W.heap.size W w') := fun l v now W hT hv => by
    obtain ⟨a, c, rfl, h, hc, hn⟩ := hv
    refine (specTreeFilled a c l now W hT h).mono fun e w' hh => ?_
    obtain ⟨⟨v, rfl, r⟩, q⟩ := hh
    obtain ⟨p, q', rfl⟩ := r.shape
    exact ⟨⟨p, q', rfl, ndsV_row r⟩, q⟩
  have LT' : Hid (∀ (l : List Nd) (v1 v2 : Value) (W : World), l.length ≤ 1048576 → NdsV W v1 l → NdsV W v2 l → Calls Try.prog 13 #[v1, v2] W fun e w' => e = .returned (.bool true) ∧ Below W.heap.size W w') := fun l v1 v2 W hT h1 h2 => by
    obtain ⟨a1, c1, rfl, h1, _⟩ := h1
    obtain ⟨a2, c2, rfl, h2, _⟩ := h2
    exact likeNds a1 a2 c1 c2 l W hT h1 h2
  have FI' : Hid _ := IFI
  clear hcode ICA IWC ITF IFI
  go_enter Try.func4, Try.ntmps4
  go_wp2_with (go_at_call 6; go_in)
  refine (dDrawWhenCan hc _ hb).mono ?_
  rintro e w1 ⟨⟨v, tl, n, size, rfl, r1, hl, hn, hs⟩, q⟩
  obtain ⟨tp, tq, rfl⟩ := r1.shape
  obtain ⟨tn, htn⟩ : ∃ n, tl.length = n := ⟨_, rfl⟩
  have B1 : Hid (NdsV w1 (.slice tp tn tq) tl ∧ Below w.heap.size w w1) := ⟨by rw [← htn]; exact ndsV_row r1, q⟩
  have Htn : Hid (tl.length = tn ∧ tl.length ≤ 1048576) := ⟨htn, by omega⟩
  have hsz : -1 ≤ size ∧ size ≤ 60 := hs
  rw [htn]
  rw [htn] at hl
  clear r1 q htn hs
  have C1 := fun v W h => WC'.out tl v n size W Htn.out.2 hsz.2 h
  have C1s := fun v W h => SWC'.out tl v n size W Htn.out.2 hsz.2 h
  have Wh : Hid (0 ≤ whenCan tl n size → tin tl n = true ∧ whenCan tl n size ≤ 1099511627776 ∧ can (tfilled tl (whenCan tl n size)) n size = true ∧ (whenCan tl n size = (ndAt tl 0).pz.tm ∨ can (tfilled tl (whenCan tl n size - 1)) n size = false)) := fun h => when_can h
  generalize whenCan tl n size = wt at C1 C1s Wh
  have C1' : Hid _ := C1
  have C1s' : Hid _ := C1s
  clear C1 C1s WC' SWC'
  go_wp2_with fail
  refine (C1'.out _ _ B1.out.1).mono ?_
  rintro e w2 ⟨rfl, q⟩
  have B2 : Hid (NdsV w2 (.slice tp tn tq) tl ∧ Below w.heap.size w w2) := ⟨B1.out.1.below q, B1.out.2.trans (q.mono B1.out.2.size)⟩
  clear q B1 C1'
  have b2 : Hid (Below w.heap.size w w2) := B2.out.2
  go_wp2_with fail
  refine (dDrawTreeFilled hc _ b2).mono ?_
  rintro e w3 ⟨⟨v, al, now, rfl, r1, ha, hk⟩, q⟩
  obtain ⟨ap, aq, rfl⟩ := r1.shape
  obtain ⟨an, han⟩ : ∃ n, al.length = n := ⟨_, rfl⟩
  have B3 : Hid (NdsV w3 (.slice tp tn tq) tl ∧ NdsV w3 (.slice ap an aq) al ∧ Below w.heap.size w w3) := ⟨B2.out.1.below q, by rw [← han]; exact ndsV_row r1, B2.out.2.trans (q.mono B2.out.2.size)⟩
  have Han : Hid (al.length = an ∧ al.length ≤ 1048576) := ⟨han, by omega⟩
  rw [han]
  rw [han] at ha
  clear r1 q han B2 b2
  have C3 := fun v W h => TF'.out al v now W Han.out.2 h
  have C3s := fun v W h => STF'.out al v now W Han.out.2 h
  have HF : Hid (tok al = true → ∀ k, k < al.length → (tfilled al now).length = al.length ∧ (ndAt (tfilled al now) k).pz = (ndAt al k).pz.filled now) := fun h k hk => tfilled_at h hk
  have HFb : Hid ((tfilled al now).length ≤ an) := by show (tfilled al now).length ≤ an; have := tfilled_len al now; rw [Han.out.1] at this; exact this
  generalize tfilled al now = F at C3 C3s HF HFb
  obtain ⟨fn, hfn⟩ : ∃ n, F.length = n := ⟨_, rfl⟩
  rw [hfn] at C3 C3s HFb
  have Hfn : Hid (F.length = fn) := hfn
  have hfa : fn ≤ an := HFb.out
  have C3' : Hid _ := C3
  have C3s' : Hid _ := C3s
  clear C3 C3s hfn HFb
  go_wp2_with fail
  refine (C3'.out _ _ B3.out.2.1).mono ?_
  rintro e w4 ⟨⟨fp, fq, rfl, i1⟩, q⟩
  have Z4 : Hid (WcL w (.slice tp tn tq) tl (.slice ap an aq) al (.slice fp fn fq) F w4) := ⟨B3.out.1.below q, B3.out.2.1.below q, i1, B3.out.2.2.trans (q.mono B3.out.2.2.size)⟩
  clear q i1 B3 C3'
  go_wp2_with fail
  refine (C1s'.out _ _ Z4.out.t).mono ?_
  rintro e w5 ⟨rfl, q⟩
  have Z5 : Hid (WcL w (.slice tp tn tq) tl (.slice ap an aq) al (.slice fp fn fq) F w5) := Z4.out.below q
  clear q Z4 C1s'
  go_wp2_with fail
  refine (C3s'.out _ _ Z5.out.a).mono ?_
  rintro e w6 ⟨⟨gp, gq, rfl, i1⟩, q⟩
  have Z6 : Hid (WcL w (.slice tp tn tq) tl (.slice ap an aq) al (.slice fp fn fq) F w6 ∧ NdsV w6 (.slice gp fn gq) F) := ⟨Z5.out.below q, i1⟩
  clear q i1 Z5 C3s'
  go_wp2_with fail
  refine (LT'.out F _ _ _ (by rw [Hfn.out]; omega) Z6.out.1.f Z6.out.2).mono ?_
  rintro e w7 ⟨rfl, q⟩
  have Z7 : Hid (WcL w (.slice tp tn tq) tl (.slice ap an aq) al (.slice fp fn fq) F w7) := Z6.out.1.below q
  clear q Z6 LT'
  have D1 := fun v W h => STK'.out al v W Han.out.2 h
  obtain ⟨tk, htk⟩ : ∃ b, tok al = b := ⟨_, rfl⟩
  rw [htk] at D1 HF
  have D1' : Hid _ := D1
  clear D1 htk STK'
  go_wp2_with fail
  refine (D1'.out _ _ Z7.out.a).mono ?_
  rintro e w8 ⟨rfl, q⟩
  have Z8 : Hid (WcL w (.slice tp tn tq) tl (.slice ap an aq) al (.slice fp fn fq) F w8) := Z7.out.below q
  clear q Z7 D1'
  cases tk
  · clear HF
    by_cases hw : wt < 0
    · have hw' : decide (wt < 0) = true := decide_eq_true hw
      have bl : Hid (Below w.heap.size w w8) := Z8.out.bel
      clear Z8
      go_wp2
      go_ret
      exact ⟨rfl, bl.out⟩
    have hw' : decide (wt < 0) = false := decide_eq_false hw
    obtain ⟨y1, y2, y3, y4⟩ := Wh.out (by omega)
    have htl := (tok_iff.1 (tin_iff.1 y1).1).1
    have E1 := fun v W h => TF'.out tl v wt W Htn.out.2 h
    have E2 := fun v W (h : NdsV W v (tfilled tl wt)) => CA'.out (tfilled tl wt) v n size W (Nat.le_trans (tfilled_len _ _) Htn.out.2) h
    rw [y3] at E2
    generalize tfilled tl wt = G at E1 E2
    have E1' : Hid _ := E1
    have E2' : Hid _ := E2
    clear E1 E2 y3
    go_wp2_with fail
    refine (E1'.out _ _ Z8.out.t).mono ?_
    rintro e w20 ⟨⟨gp2, gq2, rfl, i1⟩, q⟩
    have Z20 : Hid (WcL w (.slice tp tn tq) tl (.slice ap an aq) al (.slice fp fn fq) F w20 ∧ NdsV w20 (.slice gp2 G.length gq2) G) := ⟨Z8.out.below q, i1⟩
    clear q i1 E1'
    go_wp2_with fail
    refine (E2'.out _ _ Z20.out.2).mono ?_
    rintro e w21 ⟨rfl, q⟩
    have Z21 : Hid (WcL w (.slice tp tn tq) tl (.slice ap an aq) al (.slice fp fn fq) F w21) := Z20.out.1.below q
    clear q Z20 E2'
    obtain ⟨b1, o1, ha1, -, -⟩ := (ndsV_spot Z21.out.t).2 0 htl
    subst ha1
    have hpos : 0 < tn := by have := Htn.out.1; omega
    have c4 : w21.cell? ⟨b1, o1 + 4, none⟩ = some (.int .i64 (ndAt tl 0).pz.tm) := by
      have := ((ndsV_spot Z21.out.t).2.cells (k := 0) htl).2.2.2.2
      simpa using this
    have Bl : Hid (Below w.heap.size w w21) := Z21.out.bel
    have wz : IntKind.i64.wrap (wt - 1) = wt - 1 := by rw [IntKind.wrap_i64]; omega
    generalize (ndAt tl 0).pz.tm = t0 at c4 y4
    by_cases ht : wt = t0
    · subst ht
      clear y4 Z21
      go_wp2
      go_ret
      exact ⟨rfl, Bl.out⟩
    have ht' : (wt == t0) = false := by simpa using ht
    have y5 : can (tfilled tl (wt - 1)) n size = false := by rcases y4 with q | q; exact absurd q ht; exact q
    have E3 := fun v W h => TF'.out tl v (wt - 1) W Htn.out.2 h
    have E4 := fun v W (h : NdsV W v (tfilled tl (wt - 1))) => CA'.out (tfilled tl (wt - 1)) v n size W (Nat.le_trans (tfilled_len _ _) Htn.out.2) h
    rw [y5] at E4
    generalize tfilled tl (wt - 1) = G2 at E3 E4
    have E3' : Hid _ := E3
    have E4' : Hid _ := E4
    clear E3 E4 y4 y5 ht
    go_wp2_with fail
    refine (E3'.out _ _ Z21.out.t).mono ?_
    rintro e w22 ⟨⟨gp3, gq3, rfl, i1⟩, q⟩
    have Z22 : Hid (NdsV w22 (.slice gp3 G2.length gq3) G2 ∧ Below w.heap.size w w22) := ⟨i1, Bl.out.trans (q.mono Bl.out.size)⟩
    clear q i1 E3' Z21 Bl c4
    go_wp2_with fail
    refine (E4'.out _ _ Z22.out.1).mono ?_
    rintro e w23 ⟨rfl, q⟩
    have Z23 : Hid (Below w.heap.size w w23) := Z22.out.2.trans (q.mono Z22.out.2.size)
    clear q Z22 E4'
    go_wp2
    go_ret
    exact ⟨rfl, Z23.out⟩
  have HF2 : Hid (∀ k, k < an → F.length = an ∧ (ndAt F k).pz = (ndAt al k).pz.filled now) := fun k hk => by
    have := HF.out (by first | exact trivial | exact rfl) k (by rw [Han.out.1]; exact hk)
    rw [Han.out.1] at this
    exact this
  clear HF
  go_wp2_with fail
  go_loopw [10] (fun s wr => ∃ i : Nat, i ≤ fn ∧ s = .int .i64 i ∧ Hid (WcL w (.slice tp tn tq) tl (.slice ap an aq) al (.slice fp fn fq) F wr)) (fun s _ => fn - (intOf s).toNat)
  case atStart => exact ⟨0, Nat.zero_le _, rfl, Z8⟩
  case round =>
    obtain ⟨i, hi, rfl, HK⟩ := hrel
    clear Z8
    obtain ⟨wo, rfl⟩ : ∃ wo, wo = wr := ⟨_, rfl⟩
    by_cases hlt : i < fn
    · have hlt' : (i : Int) < (fn : Int) := by omega
      have hia : i < an := by omega
      obtain ⟨b1, o1, ha1, -, -⟩ := (ndsV_spot HK.out.f).2 i (by rw [Hfn.out]; exact hlt)
      obtain ⟨b2, o2, ha2, -, -⟩ := (ndsV_spot HK.out.a).2 i (by rw [Han.out.1]; exact hia)
      subst ha1; subst ha2
      have cf := fun pz : BelW wo.heap.size wo => ((ndsV_spot (HK.out.f.below pz.h)).2.cells (k := i) (by rw [Hfn.out]; exact hlt)).2
      have ca := fun pz : BelW wo.heap.size wo => ((ndsV_spot (HK.out.a.below pz.h)).2.cells (k := i) (by rw [Han.out.1]; exact hia)).2
      have C := fun w => FI'.out (ndAt al i).pz now w
      rw [← (HF2.out i hia).2] at C
      generalize (ndAt al i).pz = x at ca C
      generalize (ndAt F i).pz = y at cf C
      obtain ⟨x1, x2, x3, x4⟩ := x
      obtain ⟨y1, y2, y3, y4⟩ := y
      simp only [Pz.val] at cf ca C
      have f1 := fun pz => (cf pz).1
      have f2 := fun pz => (cf pz).2.1
      have f3 := fun pz => (cf pz).2.2.1
      have f4 := fun pz => (cf pz).2.2.2
      have g1 := fun pz => (ca pz).1
      have g2 := fun pz => (ca pz).2.1
      have g3 := fun pz => (ca pz).2.2.1
      have g4 := fun pz => (ca pz).2.2.2
      have C' : Hid _ := C
      have St : Hid (∀ w2, Below wo.heap.size wo w2 → WcL w (.slice tp tn tq) tl (.slice (some ⟨b2, o2, none⟩) an aq) al (.slice (some ⟨b1, o1, none⟩) fn fq) F w2) := fun w2 q => HK.out.below q
      clear C cf ca HK
      haveI : Nonempty (BelW wo.heap.size wo) := ⟨⟨wo, Below.refl _ _⟩⟩
      go_upto_region 13 with fail
      refine region_below wo.heap.size (by kernel_rfl) (by kernel_rfl) ?_
      repeat (go_big_quiet_step ((go_at_call 26; with_reducible refine quiet_below (Nat.le_refl _) (C'.out _))))
      refine wpQuiet_nil ?_
      intro w9 hx
      have Z9 : Hid (WcL w (.slice tp tn tq) tl (.slice (some ⟨b2, o2, none⟩) an aq) al (.slice (some ⟨b1, o1, none⟩) fn fq) F w9) := St.out _ (BelW.out hx)
      clear hx f1 f2 f3 f4 g1 g2 g3 g4 St C'
      go_wp2
      go_roundw
      case rel => exact ⟨i + 1, by omega, by go_num, Z9⟩
      case measure => simp [intOf] <;> omega
    · obtain rfl : fn = i := by omega
      clear HF2
      by_cases hw : wt < 0
      · have hw' : decide (wt < 0) = true := decide_eq_true hw
        have bl : Hid (Below w.heap.size w wo) := HK.out.bel
        clear HK
        go_wp2
        go_ret
        exact ⟨rfl, bl.out⟩
      have hw' : decide (wt < 0) = false := decide_eq_false hw
      obtain ⟨y1, y2, y3, y4⟩ := Wh.out (by omega)
      have htl := (tok_iff.1 (tin_iff.1 y1).1).1
      have E1 := fun v W h => TF'.out tl v wt W Htn.out.2 h
      have E2 := fun v W (h : NdsV W v (tfilled tl wt)) => CA'.out (tfilled tl wt) v n size W (Nat.le_trans (tfilled_len _ _) Htn.out.2) h
      rw [y3] at E2
      generalize tfilled tl wt = G at E1 E2
      have E1' : Hid _ := E1
      have E2' : Hid _ := E2
      clear E1 E2 y3
      go_wp2_with fail
      refine (E1'.out _ _ HK.out.t).mono ?_
      rintro e w20 ⟨⟨gp2, gq2, rfl, i1⟩, q⟩
      have Z20 : Hid (WcL w (.slice tp tn tq) tl (.slice ap an aq) al (.slice fp fn fq) F w20 ∧ NdsV w20 (.slice gp2 G.length gq2) G) := ⟨HK.out.below q, i1⟩
      clear q i1 E1'
      go_wp2_with fail
      refine (E2'.out _ _ Z20.out.2).mono ?_
      rintro e w21 ⟨rfl, q⟩
      have Z21 : Hid (WcL w (.slice tp tn tq) tl (.slice ap an aq) al (.slice fp fn fq) F w21) := Z20.out.1.below q
      clear q Z20 E2'
      obtain ⟨b1, o1, ha1, -, -⟩ := (ndsV_spot Z21.out.t).2 0 htl
      subst ha1
      have hpos : 0 < tn := by have := Htn.out.1; omega
      have c4 : w21.cell? ⟨b1, o1 + 4, none⟩ = some (.int .i64 (ndAt tl 0).pz.tm) := by
        have := ((ndsV_spot Z21.out.t).2.cells (k := 0) htl).2.2.2.2
        simpa using this
      have Bl : Hid (Below w.heap.size w w21) := Z21.out.bel
      have wz : IntKind.i64.wrap (wt - 1) = wt - 1 := by rw [IntKind.wrap_i64]; omega
      generalize (ndAt tl 0).pz.tm = t0 at c4 y4
      by_cases ht : wt = t0
      · subst ht
        clear y4 Z21
        go_wp2
        go_ret
        exact ⟨rfl, Bl.out⟩
      have ht' : (wt == t0) = false := by simpa using ht
      have y5 : can (tfilled tl (wt - 1)) n size = false := by rcases y4 with q | q; exact absurd q ht; exact q
      have E3 := fun v W h => TF'.out tl v (wt - 1) W Htn.out.2 h
      have E4 := fun v W (h : NdsV W v (tfilled tl (wt - 1))) => CA'.out (tfilled tl (wt - 1)) v n size W (Nat.le_trans (tfilled_len _ _) Htn.out.2) h
      rw [y5] at E4
      generalize tfilled tl (wt - 1) = G2 at E3 E4
      have E3' : Hid _ := E3
      have E4' : Hid _ := E4
      clear E3 E4 y4 y5 ht
      go_wp2_with fail
      refine (E3'.out _ _ Z21.out.t).mono ?_
      rintro e w22 ⟨⟨gp3, gq3, rfl, i1⟩, q⟩
      have Z22 : Hid (NdsV w22 (.slice gp3 G2.length gq3) G2 ∧ Below w.heap.size w w22) := ⟨i1, Bl.out.trans (q.mono Bl.out.size)⟩
      clear q i1 E3' Z21 Bl c4
      go_wp2_with fail
      refine (E4'.out _ _ Z22.out.1).mono ?_
      rintro e w23 ⟨rfl, q⟩
      have Z23 : Hid (Below w.heap.size w w23) := Z22.out.2.trans (q.mono Z22.out.2.size)
      clear q Z22 E4'
      go_wp2
      go_ret
      exact ⟨rfl, Z23.out⟩
end Go.Proofs.Ytfdapmchpikfiaa
