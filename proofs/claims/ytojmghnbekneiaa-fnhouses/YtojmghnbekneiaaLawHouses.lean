/-
  The walk of FnHouses, the program's contracts given. By the verifier, by program.
-/
import Derived.Test.YtojmghnbekneiaaDlDrawQ
import Derived.Test.YtojmghnbekneiaaDlWentS
import Derived.Test.YtojmghnbekneiaaDlSpecW
import Derived.Test.YtojmghnbekneiaaDlFacts
import Derived.Test.YtojmghnbekneiaaDlBig
import Derived.Test.YtojmghnbekneiaaDlHo
import Derived.Test.YtojmghnbekneiaaLikeDl
import Derived.Test.YtojmghnbekneiaaM1LikeHas
import Derived.Test.YtojmghnbekneiaaM2OneN
import Derived.BigQuiet
namespace Go.Proofs.Ytojmghnbekneiaa
open Go.RowKit

theorem went_waiting_in (d : Dl) (hk : d.ok = true) : 0 ≤ d.waiting ∧ d.waiting ≤ 64000 := by
  unfold Dl.waiting
  rw [if_pos hk]
  have h1 := Dl.ok_iff.1 hk
  have h2 := waits_in h1.2.2
  unfold Dl.waits
  omega

set_option maxHeartbeats 12800000 in
set_option maxRecDepth 100000 in
theorem fnHouses_law
    (IR : ∀ (r : Dl) (v : Value) (host : Int) (w : World), r.big ≤ 1048576 → Hid (DlAt w v r) → Calls Try.prog 14 #[v, .int .i64 host] w fun e w' => e = .returned (.int .i64 (r.rank host)) ∧ Below w.heap.size w w')
    (IW : ∀ (r : Dl) (v : Value) (w : World), r.big ≤ 1048576 → Hid (DlAt w v r) → Calls Try.prog 12 #[v] w fun e w' => e = .returned (.int .i64 r.waiting) ∧ Below w.heap.size w w')
    (IK : ∀ (r : Dl) (v : Value) (w : World), r.big ≤ 1048576 → Hid (DlAt w v r) → Calls Try.prog 10 #[v] w fun e w' => e = .returned (.bool r.ok) ∧ Below w.heap.size w w')
    (IG : ∀ (r : Dl) (v : Value) (w : World), r.big ≤ 1048576 → Hid (DlAt w v r) → Calls Try.prog 7 #[v] w fun e w' => (∃ v', e = .returned (.tuple #[v', .int .i64 r.wentH, .int .i64 r.wentF]) ∧ DlIn w.heap.size w'.heap.size w' v' r.went) ∧ Below w.heap.size w w')
    (a : Option Addr) (len cap : Nat) (w : World)
    (hcode : ∀ k, k < len → ∃ b off z, a = some ⟨b, off, none⟩ ∧ b < w.heap.size ∧ w.cell? ⟨b, off + k, none⟩ = some (.int .u8 z) ∧ 0 ≤ z ∧ z ≤ 255) :
    Calls Try.prog 3 #[.slice a len cap] w fun e w' => e = .returned (.bool true) ∧ Below w.heap.size w w' := by
  by_cases hbig : 4096 < len
  · clear hcode
    go_enter Try.func3, Try.ntmps3
    go_wp2
    go_ret
    exact ⟨rfl, Below.refl _ _⟩
  have hc : Hid (Code w a len) := ⟨by omega, hcode⟩
  have hb : Hid (Below w.heap.size w w) := Below.refl _ _
  have IR' : Hid _ := IR
  have IW' : Hid _ := IW
  have IK' : Hid _ := IK
  have IG' : Hid _ := IG
  clear hcode IR IW IK IG
  go_enter Try.func3, Try.ntmps3
  go_wp2_with (go_at_call 5; go_in)
  refine (dDrawWent hc _ hb).mono ?_
  rintro e w1 ⟨⟨v, d, rfl, iD, hD⟩, q⟩
  obtain ⟨dp, dq, rfl⟩ := iD.cells'
  have H1 : Hid (Dvs [] w w1 ∧ DlIn w.heap.size w1.heap.size w1 (.agg #[.int .i64 d.turn, .slice dp d.hosts.length dq]) d) := ⟨⟨q, fun _ h => by cases h⟩, iD⟩
  have Hd : Hid (d.big ≤ 1048576) := by show d.big ≤ 1048576; omega
  clear q hb iD hD
  generalize d.turn = df at H1 ⊢
  obtain ⟨dn, hdn⟩ : ∃ n, n = d.hosts.length := ⟨_, rfl⟩
  have Hdn : Hid (dn = d.hosts.length) := hdn
  rw [← hdn] at H1 ⊢
  clear hdn
  have N : Hid (Boxed (w1.alloc (.cells #[.int .i64 0, .slice none 0 0] 26)) w1.heap.size #[.int .i64 0, .slice none 0 0] 26) := Boxed.new _ _ _
  have H2 : Hid (Dvs [⟨w1.heap.size, #[.int .i64 df, .slice dp dn dq], d, w.heap.size, w1.heap.size⟩] w ((w1.alloc (.cells #[.int .i64 0, .slice none 0 0] 26)).setRow w1.heap.size #[.int .i64 df, .slice dp dn dq])) := H1.out.1.store _ H1.out.2 (Nat.le_refl _)
  go_wp2_with (first | (refine wpList_store_row rfl 26 (.tmp _) (.tmp _) rfl w1.heap.size #[.int .i64 df, .slice dp dn dq] rfl rfl _ _ N.out (by kernel_rfl) rfl (by simp [Value.oneCell']) ?_) | (refine wpList_load_row rfl 26 (.tmp _) rfl w1.heap.size rfl _ _ _ _ (H2.out.at 0 rfl) Try.underlying26 rfl (by kernel_rfl) ?_))
  generalize (w1.alloc (.cells #[.int .i64 0, .slice none 0 0] 26)).setRow w1.heap.size #[.int .i64 df, .slice dp dn dq] = w2 at H2 ⊢
  obtain ⟨td, htd⟩ : ∃ t, t = w1.heap.size := ⟨_, rfl⟩
  have H2' : Hid (Dvs [⟨w1.heap.size, #[.int .i64 df, .slice dp dn dq], d, w.heap.size, td⟩] w w2 ∧ td ≤ w1.heap.size) := ⟨by rw [htd]; exact H2.out, by rw [htd]; exact Nat.le_refl _⟩
  clear N H1 H2 htd
  generalize w1.heap.size = gd at H2' ⊢
  obtain ⟨bd, hbd⟩ : ∃ b, b = w.heap.size := ⟨_, rfl⟩
  have H2 : Hid (Dvs [⟨gd, #[.int .i64 df, .slice dp dn dq], d, bd, td⟩] w w2 ∧ td ≤ gd) := by rw [hbd]; exact H2'.out
  clear H2' hbd
  obtain ⟨X, hX⟩ : ∃ X, X = d.went := ⟨_, rfl⟩
  obtain ⟨kh, hkh⟩ : ∃ X, X = d.wentH := ⟨_, rfl⟩
  obtain ⟨kf, hkf⟩ : ∃ X, X = d.wentF := ⟨_, rfl⟩
  have C1 := fun w h0 => IG'.out d (.agg #[.int .i64 df, .slice dp dn dq]) w Hd.out h0
  have C3 := fun w h0 => specWent d (.agg #[.int .i64 df, .slice dp dn dq]) w Hd.out h0
  rw [← hX, ← hkh, ← hkf] at C1 C3
  have HX : Hid (X = d.went ∧ kh = d.wentH ∧ kf = d.wentF) := ⟨hX, hkh, hkf⟩
  have Hx : Hid (X.big ≤ 1048576) := by rw [hX]; exact big_went Hd.out
  have C1' : Hid _ := C1
  have C3' : Hid _ := C3
  clear hX hkh hkf C1 C3
  refine (C1'.out _ (H2.out.1.is 0 rfl)).mono ?_
  rintro e w3 ⟨⟨v, rfl, iX⟩, q⟩
  obtain ⟨xp, xq, rfl⟩ := iX.cells'
  have H3 : Hid (Dvs [⟨gd, #[.int .i64 df, .slice dp dn dq], d, bd, td⟩] w w3 ∧ DlIn w2.heap.size w3.heap.size w3 (.agg #[.int .i64 X.turn, .slice xp X.hosts.length xq]) X) := ⟨H2.out.1.below q, iX⟩
  obtain ⟨xf, hxf⟩ : ∃ z, z = X.turn := ⟨_, rfl⟩
  obtain ⟨xn, hxn⟩ : ∃ z, z = X.hosts.length := ⟨_, rfl⟩
  have Hxx : Hid (xf = X.turn ∧ xn = X.hosts.length) := ⟨hxf, hxn⟩
  rw [← hxf, ← hxn] at H3 ⊢
  clear q iX H2 C1' hxf hxn
  have N : Hid (Boxed (w3.alloc (.cells #[.int .i64 0, .slice none 0 0] 26)) w3.heap.size #[.int .i64 0, .slice none 0 0] 26) := Boxed.new _ _ _
  have H4 : Hid (Dvs [⟨w3.heap.size, #[.int .i64 xf, .slice xp xn xq], X, w2.heap.size, w3.heap.size⟩, ⟨gd, #[.int .i64 df, .slice dp dn dq], d, bd, td⟩] w ((w3.alloc (.cells #[.int .i64 0, .slice none 0 0] 26)).setRow w3.heap.size #[.int .i64 xf, .slice xp xn xq])) := H3.out.1.store _ H3.out.2 (Nat.le_refl _)
  go_wp2_with (first | (refine wpList_store_row rfl 26 (.tmp _) (.tmp _) rfl w3.heap.size #[.int .i64 xf, .slice xp xn xq] rfl rfl _ _ N.out (by kernel_rfl) rfl (by simp [Value.oneCell']) ?_) | (refine wpList_load_row rfl 26 (.tmp _) rfl w3.heap.size rfl _ _ _ _ (H4.out.at 0 rfl) Try.underlying26 rfl (by kernel_rfl) ?_) | (refine wpList_load_row rfl 26 (.tmp _) rfl gd rfl _ _ _ _ (H4.out.at 1 rfl) Try.underlying26 rfl (by kernel_rfl) ?_))
  generalize (w3.alloc (.cells #[.int .i64 0, .slice none 0 0] 26)).setRow w3.heap.size #[.int .i64 xf, .slice xp xn xq] = w4 at H4 ⊢
  obtain ⟨tx, htx⟩ : ∃ t, t = w3.heap.size := ⟨_, rfl⟩
  have H4' : Hid (Dvs [⟨w3.heap.size, #[.int .i64 xf, .slice xp xn xq], X, w2.heap.size, tx⟩, ⟨gd, #[.int .i64 df, .slice dp dn dq], d, bd, td⟩] w w4 ∧ tx ≤ w3.heap.size) := ⟨by rw [htx]; exact H4.out, by rw [htx]; exact Nat.le_refl _⟩
  clear N H3 H4 htx
  generalize w3.heap.size = gx at H4' ⊢
  generalize w2.heap.size = bx at H4'
  have H4 : Hid (Dvs [⟨gx, #[.int .i64 xf, .slice xp xn xq], X, bx, tx⟩, ⟨gd, #[.int .i64 df, .slice dp dn dq], d, bd, td⟩] w w4 ∧ tx ≤ gx) := H4'.out
  clear H4'
  refine (C3'.out _ (H4.out.1.is 1 rfl)).mono ?_
  rintro e w5 ⟨⟨v, rfl, iX⟩, q⟩
  obtain ⟨sp, sq, rfl⟩ := iX.cells'
  have H5 : Hid (Dvs [⟨gx, #[.int .i64 xf, .slice xp xn xq], X, bx, tx⟩, ⟨gd, #[.int .i64 df, .slice dp dn dq], d, bd, td⟩] w w5 ∧ DlIn w4.heap.size w5.heap.size w5 (.agg #[.int .i64 X.turn, .slice sp X.hosts.length sq]) X) := ⟨H4.out.1.below q, iX⟩
  rw [← Hxx.out.1, ← Hxx.out.2] at H5 ⊢
  obtain ⟨sf, hyf⟩ : ∃ z, z = xf := ⟨_, rfl⟩
  obtain ⟨sn, hyn⟩ : ∃ z, z = xn := ⟨_, rfl⟩
  have ey : (Value.agg #[.int .i64 xf, .slice sp xn sq]) = .agg #[.int .i64 sf, .slice sp sn sq] := by rw [hyf, hyn]
  rw [ey] at H5 ⊢
  clear q iX H4 C3' hyf hyn ey
  have N : Hid (Boxed (w5.alloc (.cells #[.int .i64 0, .slice none 0 0] 26)) w5.heap.size #[.int .i64 0, .slice none 0 0] 26) := Boxed.new _ _ _
  have H6 : Hid (Dvs [⟨w5.heap.size, #[.int .i64 sf, .slice sp sn sq], X, w4.heap.size, w5.heap.size⟩, ⟨gx, #[.int .i64 xf, .slice xp xn xq], X, bx, tx⟩, ⟨gd, #[.int .i64 df, .slice dp dn dq], d, bd, td⟩] w ((w5.alloc (.cells #[.int .i64 0, .slice none 0 0] 26)).setRow w5.heap.size #[.int .i64 sf, .slice sp sn sq])) := H5.out.1.store _ H5.out.2 (Nat.le_refl _)
  go_upto_region 6 with (first | (refine wpList_store_row rfl 26 (.tmp _) (.tmp _) rfl w5.heap.size #[.int .i64 sf, .slice sp sn sq] rfl rfl _ _ N.out (by kernel_rfl) rfl (by simp [Value.oneCell']) ?_) | (refine wpList_load_row rfl 26 (.tmp _) rfl w5.heap.size rfl _ _ _ _ (H6.out.at 0 rfl) Try.underlying26 rfl (by kernel_rfl) ?_) | (refine wpList_load_row rfl 26 (.tmp _) rfl gx rfl _ _ _ _ (H6.out.at 1 rfl) Try.underlying26 rfl (by kernel_rfl) ?_) | (refine wpList_load_row rfl 26 (.tmp _) rfl gd rfl _ _ _ _ (H6.out.at 2 rfl) Try.underlying26 rfl (by kernel_rfl) ?_))
  generalize (w5.alloc (.cells #[.int .i64 0, .slice none 0 0] 26)).setRow w5.heap.size #[.int .i64 sf, .slice sp sn sq] = w6 at H6 ⊢
  obtain ⟨ts, hts⟩ : ∃ t, t = w5.heap.size := ⟨_, rfl⟩
  have H6' : Hid (Dvs [⟨w5.heap.size, #[.int .i64 sf, .slice sp sn sq], X, w4.heap.size, ts⟩, ⟨gx, #[.int .i64 xf, .slice xp xn xq], X, bx, tx⟩, ⟨gd, #[.int .i64 df, .slice dp dn dq], d, bd, td⟩] w w6 ∧ ts ≤ w5.heap.size) := ⟨by rw [hts]; exact H6.out, by rw [hts]; exact Nat.le_refl _⟩
  clear N H5 H6 hts
  generalize w5.heap.size = gs at H6' ⊢
  generalize w4.heap.size = bs at H6'
  have H6 : Hid (Dvs [⟨gs, #[.int .i64 sf, .slice sp sn sq], X, bs, ts⟩, ⟨gx, #[.int .i64 xf, .slice xp xn xq], X, bx, tx⟩, ⟨gd, #[.int .i64 df, .slice dp dn dq], d, bd, td⟩] w w6 ∧ ts ≤ gs) := H6'.out
  clear H6'
  have H7 : Hid (Dvs [⟨gs, #[.int .i64 sf, .slice sp sn sq], X, bs, ts⟩, ⟨gx, #[.int .i64 xf, .slice xp xn xq], X, bx, tx⟩, ⟨gd, #[.int .i64 df, .slice dp dn dq], d, bd, td⟩] w w6) := H6.out.1
  clear H6
  obtain ⟨ok, hok⟩ : ∃ X, X = d.ok := ⟨_, rfl⟩
  obtain ⟨wt, hwt⟩ : ∃ X, X = d.waiting := ⟨_, rfl⟩
  have L1 := fun w h1 h2 => likeDls (.agg #[.int .i64 xf, .slice xp xn xq]) (.agg #[.int .i64 sf, .slice sp sn sq]) X w Hx.out h1 h2
  have K1 := fun w h0 => IK'.out d (.agg #[.int .i64 df, .slice dp dn dq]) w Hd.out h0
  have K2 := fun w h0 => specDealOk d (.agg #[.int .i64 df, .slice dp dn dq]) w Hd.out h0
  have K3 := fun w h0 => IW'.out d (.agg #[.int .i64 df, .slice dp dn dq]) w Hd.out h0
  have K4 := fun w h0 => specWaiting d (.agg #[.int .i64 df, .slice dp dn dq]) w Hd.out h0
  rw [← hok] at K1 K2
  rw [← hwt] at K3 K4
  have Hok : Hid (ok = d.ok ∧ wt = d.waiting) := ⟨hok, hwt⟩
  have L1' : Hid _ := L1
  have K1' : Hid _ := K1
  have K2' : Hid _ := K2
  have K3' : Hid _ := K3
  have K4' : Hid _ := K4
  clear L1 K1 K2 K3 K4 hok hwt
  go_cut [60] (fun s wc => Hid (s = .bool false ∧ Dvs [⟨gs, #[.int .i64 sf, .slice sp sn sq], X, bs, ts⟩, ⟨gx, #[.int .i64 xf, .slice xp xn xq], X, bx, tx⟩, ⟨gd, #[.int .i64 df, .slice dp dn dq], d, bd, td⟩] w wc))
  case first =>
    have Go : Hid (∀ p : BelW w6.heap.size w6, Dvs [⟨gs, #[.int .i64 sf, .slice sp sn sq], X, bs, ts⟩, ⟨gx, #[.int .i64 xf, .slice xp xn xq], X, bx, tx⟩, ⟨gd, #[.int .i64 df, .slice dp dn dq], d, bd, td⟩] w p.w') := fun p => H7.out.below p.h
    have cs0 : ∀ p : BelW w6.heap.size w6, p.w'.cell? ⟨gs, 0, none⟩ = some (.int .i64 sf) := fun p => ((Go.out p).at 0 rfl).cell 0 rfl
    have cs1 : ∀ p : BelW w6.heap.size w6, p.w'.cell? ⟨gs, 1, none⟩ = some (.slice sp sn sq) := fun p => ((Go.out p).at 0 rfl).cell 1 rfl
    have cx0 : ∀ p : BelW w6.heap.size w6, p.w'.cell? ⟨gx, 0, none⟩ = some (.int .i64 xf) := fun p => ((Go.out p).at 1 rfl).cell 0 rfl
    have cx1 : ∀ p : BelW w6.heap.size w6, p.w'.cell? ⟨gx, 1, none⟩ = some (.slice xp xn xq) := fun p => ((Go.out p).at 1 rfl).cell 1 rfl
    have cd0 : ∀ p : BelW w6.heap.size w6, p.w'.cell? ⟨gd, 0, none⟩ = some (.int .i64 df) := fun p => ((Go.out p).at 2 rfl).cell 0 rfl
    have cd1 : ∀ p : BelW w6.heap.size w6, p.w'.cell? ⟨gd, 1, none⟩ = some (.slice dp dn dq) := fun p => ((Go.out p).at 2 rfl).cell 1 rfl
    haveI : Nonempty (BelW w6.heap.size w6) := ⟨⟨w6, Below.refl _ _⟩⟩
    go_wp2_with fail
    cases ok
    · skip
      refine region_below w6.heap.size (by kernel_rfl) (by kernel_rfl) ?_
      repeat (go_big_quiet_step ((first | (go_at_call 9; with_reducible refine quiet_below (Nat.le_refl _) (L1'.out _ ((Go.out _).is 1 rfl) ((Go.out _).is 0 rfl))) | (go_at_call 10; with_reducible refine quiet_below (Nat.le_refl _) (K1'.out _ ((Go.out _).is 2 rfl))) | (go_at_call 11; with_reducible refine quiet_below (Nat.le_refl _) (K2'.out _ ((Go.out _).is 2 rfl))) | (go_at_call 12; with_reducible refine quiet_below (Nat.le_refl _) (K3'.out _ ((Go.out _).is 2 rfl))) | (go_at_call 13; with_reducible refine quiet_below (Nat.le_refl _) (K4'.out _ ((Go.out _).is 2 rfl))))))
      refine wpQuiet_nil ?_
      intro w7 hx
      have H8 : Hid (Dvs [⟨gs, #[.int .i64 sf, .slice sp sn sq], X, bs, ts⟩, ⟨gx, #[.int .i64 xf, .slice xp xn xq], X, bx, tx⟩, ⟨gd, #[.int .i64 df, .slice dp dn dq], d, bd, td⟩] w w7) := H7.out.below (BelW.out hx)
      clear hx cs0 cs1 cx0 cx1 cd0 cd1
      go_wp2
      go_meet
      exact ⟨rfl, H8.out⟩
    · skip
      refine region_below w6.heap.size (by kernel_rfl) (by kernel_rfl) ?_
      repeat (go_big_quiet_step ((first | (go_at_call 9; with_reducible refine quiet_below (Nat.le_refl _) (L1'.out _ ((Go.out _).is 1 rfl) ((Go.out _).is 0 rfl))) | (go_at_call 10; with_reducible refine quiet_below (Nat.le_refl _) (K1'.out _ ((Go.out _).is 2 rfl))) | (go_at_call 11; with_reducible refine quiet_below (Nat.le_refl _) (K2'.out _ ((Go.out _).is 2 rfl))) | (go_at_call 12; with_reducible refine quiet_below (Nat.le_refl _) (K3'.out _ ((Go.out _).is 2 rfl))) | (go_at_call 13; with_reducible refine quiet_below (Nat.le_refl _) (K4'.out _ ((Go.out _).is 2 rfl))))))
      refine wpQuiet_nil ?_
      intro w7 hx
      have H8 : Hid (Dvs [⟨gs, #[.int .i64 sf, .slice sp sn sq], X, bs, ts⟩, ⟨gx, #[.int .i64 xf, .slice xp xn xq], X, bx, tx⟩, ⟨gd, #[.int .i64 df, .slice dp dn dq], d, bd, td⟩] w w7) := H7.out.below (BelW.out hx)
      clear hx cs0 cs1 cx0 cx1 cd0 cd1
      go_wp2
      go_meet
      exact ⟨rfl, H8.out⟩
  case rest =>
  obtain ⟨rfl, hP⟩ := hcut.out
  have H8 : Hid (Dvs [⟨gx, #[.int .i64 xf, .slice xp xn xq], X, bx, tx⟩, ⟨gd, #[.int .i64 df, .slice dp dn dq], d, bd, td⟩] w wc) := hP.sub fun e he => by simp only [List.mem_cons, List.not_mem_nil, or_false] at he ⊢; exact .inr he
  clear hcut hP H7 L1' K1' K4'
  go_wp2_with (first | (refine wpList_load_row rfl 26 (.tmp _) rfl gx rfl _ _ _ _ (H8.out.at 0 rfl) Try.underlying26 rfl (by kernel_rfl) ?_) | (refine wpList_load_row rfl 26 (.tmp _) rfl gd rfl _ _ _ _ (H8.out.at 1 rfl) Try.underlying26 rfl (by kernel_rfl) ?_))
  refine (K2'.out _ (H8.out.is 1 rfl)).mono ?_
  rintro e w9 ⟨rfl, q⟩
  have H9 : Hid (Dvs [⟨gx, #[.int .i64 xf, .slice xp xn xq], X, bx, tx⟩, ⟨gd, #[.int .i64 df, .slice dp dn dq], d, bd, td⟩] w w9) := H8.out.below q
  clear q H8 K2'
  have kx0 : w9.cell? ⟨gx, 0, none⟩ = some (.int .i64 xf) := (H9.out.at 0 rfl).cell 0 rfl
  have kx1 : w9.cell? ⟨gx, 1, none⟩ = some (.slice xp xn xq) := (H9.out.at 0 rfl).cell 1 rfl
  cases ok
  · have e1 := HX.out.1
    have e2 := HX.out.2.1
    rw [Dl.went_bad Hok.out.1.symm] at e1
    rw [Dl.wentH_not (.inl Hok.out.1.symm)] at e2
    subst e2
    have L2 := fun w h1 h2 => likeDls (.agg #[.int .i64 xf, .slice xp xn xq]) (.agg #[.int .i64 0, .slice none 0 0]) X w Hx.out h1 h2
    have L2' : Hid _ := L2
    have Ex : Hid (X = ⟨0, []⟩) := e1
    clear L2 e1
    go_wp2_with fail
    refine (L2'.out _ (H9.out.is 0 rfl) (by rw [Ex.out]; exact ⟨none, 0, rfl, HssAt.nil _ _⟩)).mono ?_
    rintro e w10 ⟨rfl, q⟩
    have H10 : Hid (Below w.heap.size w w10) := (H9.out.below q).bel
    clear q H9 L2' kx0 kx1
    go_wp2
    go_ret
    exact ⟨rfl, H10.out⟩
  have hk : d.ok = true := Hok.out.1.symm
  by_cases hh : d.has = true
  case neg =>
    have hh' : d.has = false := by simpa using hh
    have e1 := HX.out.1
    have e2 := HX.out.2.1
    have e3 := Hok.out.2
    rw [Dl.went_not hk hh'] at e1
    rw [Dl.wentH_not (.inr hh')] at e2
    rw [Dl.none_waits hk hh'] at e3
    subst e2
    subst e3
    have L2 := fun w h1 h2 => likeDls (.agg #[.int .i64 xf, .slice xp xn xq]) (.agg #[.int .i64 df, .slice dp dn dq]) X w Hx.out h1 h2
    have L2' : Hid _ := L2
    have Ex : Hid (X = d) := e1
    clear L2 e1 hh hh' hk kx0 kx1
    go_wp2_with (first | (refine wpList_load_row rfl 26 (.tmp _) rfl gx rfl _ _ _ _ (H9.out.at 0 rfl) Try.underlying26 rfl (by kernel_rfl) ?_) | (refine wpList_load_row rfl 26 (.tmp _) rfl gd rfl _ _ _ _ (H9.out.at 1 rfl) Try.underlying26 rfl (by kernel_rfl) ?_))
    refine (L2'.out _ (H9.out.is 0 rfl) (by rw [Ex.out]; exact H9.out.is 1 rfl)).mono ?_
    rintro e w10 ⟨rfl, q⟩
    have H10 : Hid (Dvs [⟨gx, #[.int .i64 xf, .slice xp xn xq], X, bx, tx⟩, ⟨gd, #[.int .i64 df, .slice dp dn dq], d, bd, td⟩] w w10) := H9.out.below q
    clear q H9 L2'
    have kd0 : w10.cell? ⟨gd, 0, none⟩ = some (.int .i64 df) := (H10.out.at 1 rfl).cell 0 rfl
    have kd1 : w10.cell? ⟨gd, 1, none⟩ = some (.slice dp dn dq) := (H10.out.at 1 rfl).cell 1 rfl
    go_wp2_with fail
    refine (K3'.out _ (H10.out.is 1 rfl)).mono ?_
    rintro e w11 ⟨rfl, q⟩
    have H11 : Hid (Below w.heap.size w w11) := (H10.out.below q).bel
    clear q H10 kd0 kd1
    go_wp2
    go_ret
    exact ⟨rfl, H11.out⟩
  clear kx0 kx1
  have e1 := HX.out.1
  have e2 := HX.out.2.1
  have e3 := HX.out.2.2
  rw [Dl.wentH_is hk hh] at e2
  rw [Dl.wentF_is hk hh] at e3
  have hxk : X.ok = true := by rw [e1]; exact Dl.went_ok hk
  have hxl : X.hosts.length = d.hosts.length := by rw [e1]; exact Dl.went_len hk
  have hxg : X.gap d.at' = X.hosts.length - 1 := by rw [e1]; exact Dl.went_gap hk hh
  have hxw : X.waiting = d.waiting - 1 := by rw [e1]; exact Dl.went_waits hk hh
  have hal := Dl.at_lt hk
  have hfl := Hs.at_lt (Dl.ok_at hk hal)
  have hzz := Dl.went_flow hk hh
  rw [← e1] at hzz
  have hxs : hsAt X.hosts d.at' = (hsAt d.hosts d.at').less := by rw [e1, Dl.went_is hk hh]; exact hsAt_set_eq hal
  have hxm : (hsAt X.hosts d.at').flows.length = (hsAt d.hosts d.at').flows.length := by rw [hxs]; unfold Hs.less; simp
  have hzb := (Hs.ok_iff.1 (Dl.ok_at hk hal)).2.2 _ (flAt_mem hfl)
  have hwb := went_waiting_in d hk
  rw [← Hok.out.2] at hwb hxw
  have hd8 := (Dl.ok_iff.1 hk).1.2
  have HA := H9.out.mem 0 rfl
  have HB := H9.out.mem 1 rfl
  obtain ⟨pa, ca, ea, HA⟩ := HA.at
  obtain ⟨pb, cb, eb, HB⟩ := HB.at
  unfold Dl.val at ea eb
  simp only [Value.agg.injEq] at ea eb
  have ea2 : xp = pa := by simp at ea; exact ea.2.1
  have eb2 : dp = pb := by simp at eb; exact eb.2.1
  subst ea2
  subst eb2
  obtain ⟨b1, o1, a1, c1, ep1, hb1, ⟨-, cc1⟩, hi1, -⟩ := HA d.at' (by rw [hxl]; exact hal)
  obtain ⟨b2, o2, a2, c2, ep2, hb2, ⟨-, cc2⟩, hi2, -⟩ := HB d.at' hal
  obtain ⟨b3, o3, ep3, hb3, cc3⟩ := hi1 (hsAt d.hosts d.at').at' (by rw [hxm]; exact hfl)
  obtain ⟨b4, o4, ep4, hb4, cc4⟩ := hi2 (hsAt d.hosts d.at').at' hfl
  rw [hxm] at cc1
  clear HA HB ea eb hi1 hi2
  subst ep1
  subst ep2
  subst ep3
  subst ep4
  have ez : (hsAt X.hosts d.at').flows[(hsAt d.hosts d.at').at']?.getD 0 + 1 = (hsAt d.hosts d.at').flows[(hsAt d.hosts d.at').at']?.getD 0 := hzz
  have hzb' : 0 ≤ (hsAt d.hosts d.at').flows[(hsAt d.hosts d.at').at']?.getD 0 ∧ (hsAt d.hosts d.at').flows[(hsAt d.hosts d.at').at']?.getD 0 ≤ 1000 := hzb
  rw [← ez] at cc4 hzb'
  generalize (hsAt X.hosts d.at').flows[(hsAt d.hosts d.at').at']?.getD 0 = zz at cc3 cc4 hzb'
  obtain ⟨i0, hi0⟩ : ∃ i, i = d.at' := ⟨_, rfl⟩
  obtain ⟨j0, hj0⟩ : ∃ i, i = (hsAt d.hosts d.at').at' := ⟨_, rfl⟩
  obtain ⟨m0, hm0⟩ : ∃ i, i = (hsAt d.hosts d.at').flows.length := ⟨_, rfl⟩
  rw [← hj0] at e3 cc3 cc4 hfl
  rw [← hm0] at cc1 cc2 hfl
  rw [← hi0] at e2 cc1 cc2 hxg hal
  have hid : i0 < dn := by rw [Hdn.out]; exact hal
  have hix : i0 < xn := by rw [Hxx.out.2, hxl]; exact hal
  have Hg : Hid (X.ok = true ∧ i0 < X.hosts.length ∧ X.gap i0 = X.hosts.length - 1 ∧ dn = X.hosts.length ∧ dn ≤ 8) := ⟨hxk, by rw [hxl]; exact hal, hxg, by rw [Hdn.out, hxl], by rw [Hdn.out]; exact hd8⟩
  subst e2
  subst e3
  have K5 := fun w h0 => IW'.out X (.agg #[.int .i64 xf, .slice (some ⟨b1, o1, none⟩) xn xq]) w Hx.out h0
  have K6 := fun w h0 => IK'.out X (.agg #[.int .i64 xf, .slice (some ⟨b1, o1, none⟩) xn xq]) w Hx.out h0
  rw [hxw] at K5
  rw [hxk] at K6
  have K5' : Hid _ := K5
  have K6' : Hid _ := K6
  have Hcc : Hid (w9.cell? ⟨b1, o1 + i0 * 2 + 1, none⟩ = some (.slice (some ⟨b3, o3, none⟩) m0 c1) ∧ w9.cell? ⟨b2, o2 + i0 * 2 + 1, none⟩ = some (.slice (some ⟨b4, o4, none⟩) m0 c2) ∧ w9.cell? ⟨b3, o3 + j0, none⟩ = some (.int .i64 zz) ∧ w9.cell? ⟨b4, o4 + j0, none⟩ = some (.int .i64 (zz + 1)) ∧ b1 < w9.heap.size ∧ b2 < w9.heap.size ∧ b3 < w9.heap.size ∧ b4 < w9.heap.size) := ⟨cc1, cc2, cc3, cc4, hb1, hb2, hb3, hb4⟩
  have hnn : ¬ ((i0 : Nat) : Int) < 0 := by omega
  have hw1 : IntKind.i64.wrap (wt - 1) = wt - 1 := by rw [IntKind.wrap_i64]; omega
  have hw2 : IntKind.i64.wrap (zz + 1) = zz + 1 := by rw [IntKind.wrap_i64]; omega
  have hjm : ((j0 : Nat) : Int) < (m0 : Int) := by omega
  have hid' : ((i0 : Nat) : Int) < (dn : Int) := by omega
  have hix' : ((i0 : Nat) : Int) < (xn : Int) := by omega
  clear K5 K6 hxw hxk hxl hxg hxs hxm hzz hzb hwb hd8 hal hi0 hj0 hm0 hk hh e1 cc1 cc2 cc3 cc4 ez hfl hb1 hb2 hb3 hb4 Hok HX
  go_upto_region 12 with fail
  go_cut [113] (fun s wc => Hid (s = .bool false ∧ Dvs [⟨gx, #[.int .i64 xf, .slice (some ⟨b1, o1, none⟩) xn xq], X, bx, tx⟩, ⟨gd, #[.int .i64 df, .slice (some ⟨b2, o2, none⟩) dn dq], d, bd, td⟩] w wc))
  case first =>
    have Go : Hid (∀ p : BelW w9.heap.size w9, Dvs [⟨gx, #[.int .i64 xf, .slice (some ⟨b1, o1, none⟩) xn xq], X, bx, tx⟩, ⟨gd, #[.int .i64 df, .slice (some ⟨b2, o2, none⟩) dn dq], d, bd, td⟩] w p.w') := fun p => H9.out.below p.h
    have cx0 : ∀ p : BelW w9.heap.size w9, p.w'.cell? ⟨gx, 0, none⟩ = some (.int .i64 xf) := fun p => ((Go.out p).at 0 rfl).cell 0 rfl
    have cx1 : ∀ p : BelW w9.heap.size w9, p.w'.cell? ⟨gx, 1, none⟩ = some (.slice (some ⟨b1, o1, none⟩) xn xq) := fun p => ((Go.out p).at 0 rfl).cell 1 rfl
    have cd0 : ∀ p : BelW w9.heap.size w9, p.w'.cell? ⟨gd, 0, none⟩ = some (.int .i64 df) := fun p => ((Go.out p).at 1 rfl).cell 0 rfl
    have cd1 : ∀ p : BelW w9.heap.size w9, p.w'.cell? ⟨gd, 1, none⟩ = some (.slice (some ⟨b2, o2, none⟩) dn dq) := fun p => ((Go.out p).at 1 rfl).cell 1 rfl
    have f1 : ∀ p : BelW w9.heap.size w9, p.w'.cell? ⟨b1, o1 + i0 * 2 + 1, none⟩ = some (.slice (some ⟨b3, o3, none⟩) m0 c1) := fun p => by rw [p.h.cell (p := ⟨b1, o1 + i0 * 2 + 1, none⟩) Hcc.out.2.2.2.2.1]; exact Hcc.out.1
    have f2 : ∀ p : BelW w9.heap.size w9, p.w'.cell? ⟨b2, o2 + i0 * 2 + 1, none⟩ = some (.slice (some ⟨b4, o4, none⟩) m0 c2) := fun p => by rw [p.h.cell (p := ⟨b2, o2 + i0 * 2 + 1, none⟩) Hcc.out.2.2.2.2.2.1]; exact Hcc.out.2.1
    have f3 : ∀ p : BelW w9.heap.size w9, p.w'.cell? ⟨b3, o3 + j0, none⟩ = some (.int .i64 zz) := fun p => by rw [p.h.cell (p := ⟨b3, o3 + j0, none⟩) Hcc.out.2.2.2.2.2.2.1]; exact Hcc.out.2.2.1
    have f4 : ∀ p : BelW w9.heap.size w9, p.w'.cell? ⟨b4, o4 + j0, none⟩ = some (.int .i64 (zz + 1)) := fun p => by rw [p.h.cell (p := ⟨b4, o4 + j0, none⟩) Hcc.out.2.2.2.2.2.2.2]; exact Hcc.out.2.2.2.1
    haveI : Nonempty (BelW w9.heap.size w9) := ⟨⟨w9, Below.refl _ _⟩⟩
    go_wp2_with fail
    refine region_below w9.heap.size (by kernel_rfl) (by kernel_rfl) ?_
    repeat (go_big_quiet_step ((first | (go_at_call 12; with_reducible refine quiet_below (Nat.le_refl _) (K5'.out _ ((Go.out _).is 0 rfl))) | (go_at_call 12; with_reducible refine quiet_below (Nat.le_refl _) (K3'.out _ ((Go.out _).is 1 rfl))) | (go_at_call 10; with_reducible refine quiet_below (Nat.le_refl _) (K6'.out _ ((Go.out _).is 0 rfl))))))
    refine wpQuiet_nil ?_
    intro w10 hx
    have H10 : Hid (Dvs [⟨gx, #[.int .i64 xf, .slice (some ⟨b1, o1, none⟩) xn xq], X, bx, tx⟩, ⟨gd, #[.int .i64 df, .slice (some ⟨b2, o2, none⟩) dn dq], d, bd, td⟩] w w10) := H9.out.below (BelW.out hx)
    clear hx cx0 cx1 cd0 cd1 f1 f2 f3 f4
    go_wp2
    go_meet
    exact ⟨rfl, H10.out⟩
  case rest =>
  obtain ⟨rfl, hP⟩ := hcut.out
  obtain ⟨xp, hxp⟩ : ∃ p, p = some (⟨b1, o1, none⟩ : Addr) := ⟨_, rfl⟩
  obtain ⟨dp, hdp⟩ : ∃ p, p = some (⟨b2, o2, none⟩ : Addr) := ⟨_, rfl⟩
  rw [← hxp, ← hdp] at hP
  clear hxp hdp
  have H11 : Hid (Dvs [⟨gx, #[.int .i64 xf, .slice xp xn xq], X, bx, tx⟩, ⟨gd, #[.int .i64 df, .slice dp dn dq], d, bd, td⟩] w wc) := hP
  clear hcut hP H9 Hcc K3' K5' K6' hw1 hw2 hjm hix hix' IW' IK'
  have ew : Below wc.heap.size wc (wc.alloc (.cells #[.int .i64 i0] 2)) := (Below.refl _ _).alloc (Nat.le_refl _) _
  have H12 : Hid (Dvs [⟨gx, #[.int .i64 xf, .slice xp xn xq], X, bx, tx⟩, ⟨gd, #[.int .i64 df, .slice dp dn dq], d, bd, td⟩] w (wc.alloc (.cells #[.int .i64 i0] 2)) ∧ IRow wc.heap.size (wc.alloc (.cells #[.int .i64 i0] 2)) (.slice (some ⟨wc.heap.size, 0, none⟩) 1 1) [(i0 : Int)] ∧ tx ≤ wc.heap.size ∧ td ≤ wc.heap.size ∧ gx < wc.heap.size ∧ gd < wc.heap.size ∧ w.heap.size ≤ wc.heap.size ∧ wc.heap.size ≤ (wc.alloc (.cells #[.int .i64 i0] 2)).heap.size) :=
    ⟨H11.out.below ew, World.ownsRow_lit (size := 1) wc #[.int .i64 i0] 1 (Nat.le_refl _) (by unfold maxLen; omega) rfl, H11.out.top 0 rfl, H11.out.top 1 rfl, (H11.out.at 0 rfl).under, (H11.out.at 1 rfl).under, H11.out.bel.size, ew.size⟩
  clear ew H11
  go_upto_region 15 with fail
  generalize wc.alloc (.cells #[.int .i64 i0] 2) = w12 at H12 ⊢
  generalize wc.heap.size = bs at H12 ⊢
  have N : Hid (Boxed (w12.alloc (.cells #[.int .i64 0, .slice none 0 0] 26)) w12.heap.size #[.int .i64 0, .slice none 0 0] 26) := Boxed.new _ _ _
  have H13 : Hid (Dvs [⟨w12.heap.size, #[.int .i64 xf, .slice xp xn xq], X, bx, tx⟩, ⟨gx, #[.int .i64 xf, .slice xp xn xq], X, bx, tx⟩, ⟨gd, #[.int .i64 df, .slice dp dn dq], d, bd, td⟩] w ((w12.alloc (.cells #[.int .i64 0, .slice none 0 0] 26)).setRow w12.heap.size #[.int .i64 xf, .slice xp xn xq])) := H12.out.1.store _ (H12.out.1.mem 0 rfl) (H12.out.1.top 0 rfl)
  have H14 : Hid (IRow bs ((w12.alloc (.cells #[.int .i64 0, .slice none 0 0] 26)).setRow w12.heap.size #[.int .i64 xf, .slice xp xn xq]) (.slice (some ⟨bs, 0, none⟩) 1 1) [(i0 : Int)] ∧ (tx ≤ w12.heap.size ∧ td ≤ w12.heap.size) ∧ (gx < w12.heap.size ∧ gd < w12.heap.size) ∧ w.heap.size ≤ w12.heap.size ∧ (tx ≤ bs ∧ td ≤ bs) ∧ w.heap.size ≤ bs ∧ bs ≤ w12.heap.size) :=
    ⟨irow_put (H12.out.2.1.alloc _) N.out, ⟨H12.out.1.top 0 rfl, H12.out.1.top 1 rfl⟩, ⟨(H12.out.1.at 0 rfl).under, (H12.out.1.at 1 rfl).under⟩, H12.out.1.bel.size, ⟨H12.out.2.2.1, H12.out.2.2.2.1⟩, H12.out.2.2.2.2.2.2⟩
  go_wp2_with (first | (refine wpList_store_row rfl 26 (.tmp _) (.tmp _) rfl w12.heap.size #[.int .i64 xf, .slice xp xn xq] rfl rfl _ _ N.out (by kernel_rfl) rfl (by simp [Value.oneCell']) ?_) | (refine wpList_load_row rfl 26 (.tmp _) rfl gx rfl _ _ _ _ (H12.out.1.at 0 rfl) Try.underlying26 rfl (by kernel_rfl) ?_))
  generalize (w12.alloc (.cells #[.int .i64 0, .slice none 0 0] 26)).setRow w12.heap.size #[.int .i64 xf, .slice xp xn xq] = w13 at H13 H14 ⊢
  clear N H12
  generalize w12.heap.size = gy at H13 H14 ⊢
  have Hgy : Hid ((tx ≤ gy ∧ td ≤ gy) ∧ (gx < gy ∧ gd < gy) ∧ w.heap.size ≤ gy ∧ (tx ≤ bs ∧ td ≤ bs) ∧ w.heap.size ≤ bs ∧ bs ≤ gy) := H14.out.2
  go_loopw [10, 12, 13, 14, 15, 16] (fun sv s _ _ _ _ wr => ∃ k : Nat, k ≤ 8 ∧ s = .int .i64 k ∧ Hid (∃ (Y : Dl) (yf : Int) (yp : Option Addr) (yn yq yb yt : Nat) (seen : List Int) (su : Option Addr) (sc : Nat), sv = .slice su seen.length sc ∧ Dvs [⟨gy, #[.int .i64 yf, .slice yp yn yq], Y, yb, yt⟩, ⟨gx, #[.int .i64 xf, .slice xp xn xq], X, bx, tx⟩, ⟨gd, #[.int .i64 df, .slice dp dn dq], d, bd, td⟩] w wr ∧ IRow bs wr sv seen ∧ Ho X i0 Y seen ∧ Y.big ≤ 1048576 ∧ (yt ≤ gy ∨ gy < yb) ∧ seen.length ≤ 1 + k)) (fun _ s _ _ _ _ _ => 8 - (intOf s).toNat)
  case atStart => exact ⟨0, by omega, rfl, X, _, _, _, _, _, _, [(i0 : Int)], some ⟨bs, 0, none⟩, 1, rfl, H13.out, H14.out.1, Ho.first Hg.out.1, Hx.out, .inl H14.out.2.1.1, by simp⟩
  case round =>
    obtain ⟨k, hk8, rfl, HE⟩ := hrel
    clear H13 H14
    obtain ⟨Y, yf, yp, yn, yq, yb, yt, seen, su, sc, esv, HY0⟩ := HE.out
    subst esv
    have HY : Hid (Dvs [⟨gy, #[.int .i64 yf, .slice yp yn yq], Y, yb, yt⟩, ⟨gx, #[.int .i64 xf, .slice xp xn xq], X, bx, tx⟩, ⟨gd, #[.int .i64 df, .slice dp dn dq], d, bd, td⟩] w wr ∧ IRow bs wr (.slice su seen.length sc) seen ∧ Ho X i0 Y seen ∧ Y.big ≤ 1048576 ∧ (yt ≤ gy ∨ gy < yb) ∧ seen.length ≤ 1 + k) := HY0
    clear HE HY0
    by_cases hlt : k < 8
    case neg =>
      have e : k = 8 := by omega
      subst e
      go_wp2
      go_ret
      exact ⟨rfl, HY.out.1.bel⟩
    have hlt' : (k : Int) < 8 := by omega
    have G1 := fun w h0 => IG'.out Y (.agg #[.int .i64 yf, .slice yp yn yq]) w HY.out.2.2.2.1 h0
    have Hbw : Hid (Y.went.big ≤ 1048576) := big_went HY.out.2.2.2.1
    have st := fun h => Ho.step Hg.out.1 Hg.out.2.1 Hg.out.2.2.1 HY.out.2.2.1 h
    obtain ⟨Y2, hY2⟩ : ∃ z, z = Y.went := ⟨_, rfl⟩
    obtain ⟨hh, hhh⟩ : ∃ z, z = Y.wentH := ⟨_, rfl⟩
    rw [← hY2, ← hhh] at G1 st
    rw [← hY2] at Hbw
    have St : Hid _ := st
    clear hY2 hhh st
    generalize Y.wentF = hf at G1
    have G1' : Hid _ := G1
    clear G1
    go_wp2_with (refine wpList_load_row rfl 26 (.tmp _) rfl gy rfl _ _ _ _ (HY.out.1.at 0 rfl) Try.underlying26 rfl (by kernel_rfl) ?_)
    refine (G1'.out _ (HY.out.1.is 0 rfl)).mono ?_
    rintro e w14 ⟨⟨v, rfl, iZ⟩, q⟩
    obtain ⟨zp, zq, rfl⟩ := iZ.cells'
    have H15 : Hid ((Dvs [⟨gy, #[.int .i64 yf, .slice yp yn yq], Y, yb, yt⟩, ⟨gx, #[.int .i64 xf, .slice xp xn xq], X, bx, tx⟩, ⟨gd, #[.int .i64 df, .slice dp dn dq], d, bd, td⟩] w w14 ∧ DlIn wr.heap.size w14.heap.size w14 (.agg #[.int .i64 Y2.turn, .slice zp Y2.hosts.length zq]) Y2) ∧ IRow bs w14 (.slice su seen.length sc) seen ∧ (∀ y, (Value.slice su seen.length sc).ownBlock = some y → y < wr.heap.size) ∧ gy < wr.heap.size) := ⟨⟨HY.out.1.below q, iZ⟩, HY.out.2.1.carry (fun y _ hl => q.block y hl), fun y hy => (HY.out.2.1.lt y hy).2, (HY.out.1.at 0 rfl).under⟩
    have Hsl : Hid (seen.length ≤ 1 + k) := HY.out.2.2.2.2.2
    clear q iZ G1' HY
    generalize Y2.turn = zf at H15 ⊢
    generalize Y2.hosts.length = zn at H15 ⊢
    have N : Hid (Boxed (w14.alloc (.cells #[.int .i64 0, .slice none 0 0] 26)) w14.heap.size #[.int .i64 0, .slice none 0 0] 26) := Boxed.new _ _ _
    have H16 : Hid (Dvs [⟨w14.heap.size, #[.int .i64 zf, .slice zp zn zq], Y2, wr.heap.size, w14.heap.size⟩, ⟨gy, #[.int .i64 yf, .slice yp yn yq], Y, yb, yt⟩, ⟨gx, #[.int .i64 xf, .slice xp xn xq], X, bx, tx⟩, ⟨gd, #[.int .i64 df, .slice dp dn dq], d, bd, td⟩] w ((w14.alloc (.cells #[.int .i64 0, .slice none 0 0] 26)).setRow w14.heap.size #[.int .i64 zf, .slice zp zn zq]) ∧ IRow bs ((w14.alloc (.cells #[.int .i64 0, .slice none 0 0] 26)).setRow w14.heap.size #[.int .i64 zf, .slice zp zn zq]) (.slice su seen.length sc) seen) := ⟨H15.out.1.1.store _ H15.out.1.2 (Nat.le_refl _), irow_put (H15.out.2.1.alloc _) N.out⟩
    go_upto_region 20 with (refine wpList_store_row rfl 26 (.tmp _) (.tmp _) rfl w14.heap.size #[.int .i64 zf, .slice zp zn zq] rfl rfl _ _ N.out (by kernel_rfl) rfl (by simp [Value.oneCell']) ?_)
    generalize (w14.alloc (.cells #[.int .i64 0, .slice none 0 0] 26)).setRow w14.heap.size #[.int .i64 zf, .slice zp zn zq] = w15 at H16 ⊢
    have H17 : Hid ((∀ y, (Value.slice su seen.length sc).ownBlock = some y → y < wr.heap.size) ∧ gy < wr.heap.size) := H15.out.2.2
    clear N H15
    generalize w14.heap.size = gz at H16 ⊢
    obtain ⟨zt, hzt⟩ : ∃ t, t = gz := ⟨_, rfl⟩
    have H18 : Hid (Dvs [⟨gz, #[.int .i64 zf, .slice zp zn zq], Y2, wr.heap.size, zt⟩, ⟨gy, #[.int .i64 yf, .slice yp yn yq], Y, yb, yt⟩, ⟨gx, #[.int .i64 xf, .slice xp xn xq], X, bx, tx⟩, ⟨gd, #[.int .i64 df, .slice dp dn dq], d, bd, td⟩] w w15 ∧ IRow bs w15 (.slice su seen.length sc) seen) := by
      have h1 := H16.out
      rw [hzt]
      exact h1
    clear H16 hzt
    generalize wr.heap.size = zb at H17 H18
    by_cases hneg : hh < 0
    · go_wp2
      go_ret
      exact ⟨rfl, H18.out.1.bel⟩
    have St2 : Hid _ := St.out (by omega)
    clear St
    by_cases heq : hh = (i0 : Int)
    · subst heq
      have Hall : Hid (∀ y : Nat, y < dn → 0 ≤ X.rank y → (y : Int) ∈ seen) := fun y hy hr => St2.out.1 rfl y (by rw [← Hg.out.2.2.2.1]; exact hy) hr
      have hdn8 : dn ≤ 8 := Hg.out.2.2.2.2
      have hsl : seen.length ≤ 1048576 := by have := Hsl.out; omega
      clear St2 hneg
      go_wp2_with fail
      go_loopw [16] (fun s wr => ∃ y : Nat, y ≤ dn ∧ s = .int .i64 y ∧ Hid (Dvs [⟨gx, #[.int .i64 xf, .slice xp xn xq], X, bx, tx⟩, ⟨gd, #[.int .i64 df, .slice dp dn dq], d, bd, td⟩] w wr ∧ IntsAt wr su seen)) (fun s _ => dn - (intOf s).toNat)
      case atStart => exact ⟨0, Nat.zero_le _, rfl, H18.out.1.sub (fun e he => by simp only [List.mem_cons, List.not_mem_nil, or_false] at he ⊢; exact .inr (.inr he)), H18.out.2.ints⟩
      case round =>
        obtain ⟨y, hy, rfl, HI⟩ := hrel
        clear H18
        have kd1 : wr.cell? ⟨gd, 1, none⟩ = some (.slice dp dn dq) := (HI.out.1.at 1 rfl).cell 1 rfl
        by_cases hyl : y < dn
        case neg =>
          have e : y = dn := by omega
          subst e
          go_wp2
          go_ret
          exact ⟨rfl, HI.out.1.bel⟩
        have hyl' : (y : Int) < (dn : Int) := by omega
        have R1 := fun w h0 => IR'.out X (.agg #[.int .i64 xf, .slice xp xn xq]) (y : Int) w Hx.out h0
        have Hy : Hid (0 ≤ X.rank y → (y : Int) ∈ seen) := Hall.out y hyl
        generalize X.rank y = rk at R1 Hy
        have R1' : Hid _ := R1
        clear R1
        go_wp2_with (first | (refine wpList_load_row rfl 26 (.tmp _) rfl gx rfl _ _ _ _ (HI.out.1.at 0 rfl) Try.underlying26 rfl (by kernel_rfl) ?_))
        refine (R1'.out _ (HI.out.1.is 0 rfl)).mono ?_
        rintro e w16 ⟨rfl, q⟩
        have HJ : Hid (Dvs [⟨gx, #[.int .i64 xf, .slice xp xn xq], X, bx, tx⟩, ⟨gd, #[.int .i64 df, .slice dp dn dq], d, bd, td⟩] w w16 ∧ IntsAt w16 su seen) := ⟨HI.out.1.below q, HI.out.2.below q⟩
        clear q HI R1' kd1
        by_cases hrk : 0 ≤ rk
        · have hm := Hy.out hrk
          have D1 := fun w h0 => hasInts su sc seen (y : Int) w hsl h0
          rw [decide_eq_true hm] at D1
          have D1' : Hid _ := D1
          have hrk' : decide (0 ≤ rk) = true := decide_eq_true hrk
          clear D1 hm
          go_wp2_with fail
          refine (D1'.out _ HJ.out.2).mono ?_
          rintro e w17 ⟨rfl, rfl⟩
          go_wp2
          go_roundw
          case rel => exact ⟨y + 1, by omega, by go_num, HJ.out⟩
          case measure => simp [intOf]; omega
        · have hrk' : decide (0 ≤ rk) = false := decide_eq_false hrk
          go_wp2
          go_roundw
          case rel => exact ⟨y + 1, by omega, by go_num, HJ.out⟩
          case measure => simp [intOf]; omega
    have hne' : (hh == (i0 : Int)) = false := by rw [beq_eq_false_iff_ne]; exact heq
    have D1 := fun w h0 => hasInts su sc seen hh w (by have := Hsl.out; omega) h0
    have hsl : seen.length ≤ 1000000 := by have := Hsl.out; omega
    by_cases hm : hh ∈ seen
    · have hrk := St2.out.2.1 heq hm
      rw [decide_eq_true hm] at D1
      have R1 := fun w h0 => IR'.out X (.agg #[.int .i64 xf, .slice xp xn xq]) (i0 : Int) w Hx.out h0
      generalize X.rank (i0 : Int) = rk at R1 hrk
      have R1' : Hid _ := R1
      have D1' : Hid _ := D1
      clear R1 D1 St2 hm
      go_wp2_with fail
      refine (D1'.out _ H18.out.2.ints).mono ?_
      rintro e w16 ⟨rfl, rfl⟩
      go_wp2_with (refine wpList_load_row rfl 26 (.tmp _) rfl gx rfl _ _ _ _ (H18.out.1.at 2 rfl) Try.underlying26 rfl (by kernel_rfl) ?_)
      refine (R1'.out _ (H18.out.1.is 2 rfl)).mono ?_
      rintro e w17 ⟨rfl, q⟩
      have HJ : Hid (Below w.heap.size w w17) := (H18.out.1.below q).bel
      clear q
      go_wp2
      go_ret
      exact ⟨rfl, HJ.out⟩
    · have Hn : Hid (Ho X i0 Y2 (seen ++ [hh])) := St2.out.2.2 heq hm
      rw [decide_eq_false hm] at D1
      have D1' : Hid _ := D1
      clear D1 St2 hm
      go_wp2_with fail
      refine (D1'.out _ H18.out.2.ints).mono ?_
      rintro e w16 ⟨rfl, rfl⟩
      clear D1'
      have M : Hid _ := houses_app hh H18.out.1 H18.out.2 H17.out.1 Hgy.out
      have Ra : Hid _ := M.out.1
      have hl2 : seen.length + ([hh] : List Int).length ≤ 2097152 := by simp only [List.length_singleton]; omega
      clear H18
      go_upto_region 32 with (refine row_iapp rfl (.tmp 156) (.tmp 158) rfl bs (.slice su seen.length sc) seen w16.heap.size 0 1 1 [hh] rfl rfl rfl Ra.out.1 Ra.out.2.1 hl2 Ra.out.2.2 ?_; intro v' wn q1 q2 q3 _; obtain ⟨uy, ud, ey⟩ := q1.shape; rw [List.length_append, List.length_singleton] at ey; subst ey; have Q : Hid _ := M.out.2 _ wn q1 q2 q3; clear q1 q2 q3)
      have H20 : Hid (Dvs [⟨gy, #[.int .i64 zf, .slice zp zn zq], Y2, zb, zt⟩, ⟨gx, #[.int .i64 xf, .slice xp xn xq], X, bx, tx⟩, ⟨gd, #[.int .i64 df, .slice dp dn dq], d, bd, td⟩] w (wn.setRow gy #[.int .i64 zf, .slice zp zn zq]) ∧ IRow bs (wn.setRow gy #[.int .i64 zf, .slice zp zn zq]) (.slice uy (seen.length + 1) ud) (seen ++ [hh])) := houses_lay Q.out H17.out.2 Hgy.out
      clear M Ra
      go_wp2_with (first | (refine wpList_load_row rfl 26 (.tmp _) rfl gz rfl _ _ _ _ (Q.out.1.at 0 rfl) Try.underlying26 rfl (by kernel_rfl) ?_) | (refine wpList_store_row rfl 26 (.tmp _) (.tmp _) rfl gy #[.int .i64 zf, .slice zp zn zq] rfl rfl _ _ Q.out.2.1 (by kernel_rfl) rfl (by simp [Value.oneCell']) ?_))
      go_roundw
      case rel => exact ⟨k + 1, by omega, by go_num, Y2, _, _, _, _, _, _, seen ++ [hh], uy, ud, by simp, H20.out.1, H20.out.2, Hn.out, Hbw.out, .inr H17.out.2, by have := Hsl.out; simp; omega⟩
      case measure => simp [intOf]; omega

end Go.Proofs.Ytojmghnbekneiaa
