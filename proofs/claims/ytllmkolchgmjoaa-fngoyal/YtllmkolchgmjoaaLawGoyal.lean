/-
  The walk of FnGoyal, the program's contracts given. By the verifier, by program.
-/
import Derived.Test.YtllmkolchgmjoaaM8FsDrawS
import Derived.Test.YtllmkolchgmjoaaFsServedS
import Derived.Test.YtllmkolchgmjoaaM6FsFacts
import Derived.Test.YtllmkolchgmjoaaFsVs
import Derived.Test.YtllmkolchgmjoaaM9LikeFs
import Derived.Test.YtllmkolchgmjoaaPickS
import Derived.Test.YtllmkolchgmjoaaGyM
import Derived.Test.YtllmkolchgmjoaaQuiet
import Derived.BigQuiet
import Derived.Deep.LoopGhost
import Derived.Deep.CutRange
namespace Go.Proofs.Ytllmkolchgmjoaa
open Go.RowKit

/-- What a round of the first loop finds. -/
def GyR1 (w : World) (gq k : Nat) (mvv : Value) (x : World) : Prop := ∃ v rs l ms, GyB w gq v rs l mvv ms x ∧ GyP l ms ∧ l.length = k
/-- What a round of the second one finds. -/
def GyR2 (w : World) (gq : Nat) (v : Value) (rs : List Fwr) (l : List Fw) (mv : Value) (ms : List Int) (H : Nat) (wt : Int) (i : Nat) (x : World) : Prop := ∃ u sz, GyI w gq v rs l mv ms H wt u sz x ∧ sz.length = i ∧ ∀ y ∈ sz, 1 ≤ y ∧ y ≤ 200

set_option maxHeartbeats 12800000 in
set_option maxRecDepth 100000 in
theorem fnGoyal_law
    (IK : ∀ (r : Fs) (v : Value) (w : World), r.big ≤ 1048576 → Hid (FsAt w v r) → Calls Try.prog 12 #[v] w fun e w' => e = .returned (.bool r.ok) ∧ Below w.heap.size w w')
    (IC : ∀ (r : Fs) (v : Value) (w : World), r.big ≤ 1048576 → Hid (FsAt w v r) → Calls Try.prog 14 #[v] w fun e w' => e = .returned (.int .i64 r.chosen) ∧ Below w.heap.size w w')
    (IS : ∀ (r : Fs) (v : Value) (w : World), r.big ≤ 1048576 → Hid (FsAt w v r) → Calls Try.prog 9 #[v] w fun e w' => (∃ v', e = .returned (.tuple #[v', .int .i64 r.servedI, .int .i64 r.servedN]) ∧ FsIn w.heap.size w'.heap.size w' v' r.served) ∧ Below w.heap.size w w')
    (a : Option Addr) (len cap : Nat) (w : World)
    (hcode : ∀ k, k < len → ∃ b off z, a = some ⟨b, off, none⟩ ∧ b < w.heap.size ∧ w.cell? ⟨b, off + k, none⟩ = some (.int .u8 z) ∧ 0 ≤ z ∧ z ≤ 255) :
    Calls Try.prog 3 #[.slice a len cap] w fun e w' => e = .returned (.bool true) ∧ Below w.heap.size w w' := by
  by_cases hbig : 4096 < len
  · clear hcode
    go_enter Try.func3, Try.ntmps3
    go_wp2
    go_ret
    exact ⟨rfl, Below.refl _ _⟩
  have hc : Hid (Code w a len) := ⟨by omega, hcode⟩
  have hb : Hid (Below w.heap.size w w) := Below.refl _ _
  have IK' : Hid _ := IK
  have IC' : Hid _ := IC
  have IS' : Hid _ := IS
  clear hcode IK IC IS
  go_enter Try.func3, Try.ntmps3
  go_wp2_with (go_at_call 7; go_in)
  refine (dDrawServed hc _ hb).mono ?_
  rintro e w1 ⟨⟨v, d, rfl, iD, hD⟩, q⟩
  obtain ⟨dp, dq, rfl⟩ := iD.cells'
  have H1 : Hid (Fvs [] w w1 ∧ FsIn w.heap.size w1.heap.size w1 (.agg #[.int .i64 d.now, .slice dp d.flows.length dq]) d) := ⟨⟨q, fun _ h => by cases h⟩, iD⟩
  have Hd : Hid (d.big ≤ 1048576) := by show d.big ≤ 1048576; omega
  clear q hb iD hD
  generalize d.now = df at H1 ⊢
  obtain ⟨dn, hdn⟩ : ∃ n, n = d.flows.length := ⟨_, rfl⟩
  rw [← hdn] at H1 ⊢
  clear hdn
  have N : Hid (Boxed (w1.alloc (.cells #[.int .i64 0, .slice none 0 0] 26)) w1.heap.size #[.int .i64 0, .slice none 0 0] 26) := Boxed.new _ _ _
  have H2 : Hid (Fvs [⟨w1.heap.size, #[.int .i64 df, .slice dp dn dq], d, w.heap.size, w1.heap.size⟩] w ((w1.alloc (.cells #[.int .i64 0, .slice none 0 0] 26)).setRow w1.heap.size #[.int .i64 df, .slice dp dn dq])) := H1.out.1.store _ H1.out.2 (Nat.le_refl _)
  go_wp2_with (first | (refine wpList_store_row rfl 26 (.tmp _) (.tmp _) rfl w1.heap.size #[.int .i64 df, .slice dp dn dq] rfl rfl _ _ N.out (by kernel_rfl) rfl (by simp [Value.oneCell']) ?_) | (refine wpList_load_row rfl 26 (.tmp _) rfl w1.heap.size rfl _ _ _ _ (H2.out.at 0 rfl) Try.underlying26 rfl (by kernel_rfl) ?_))
  generalize (w1.alloc (.cells #[.int .i64 0, .slice none 0 0] 26)).setRow w1.heap.size #[.int .i64 df, .slice dp dn dq] = w2 at H2 ⊢
  obtain ⟨td, htd⟩ : ∃ t, t = w1.heap.size := ⟨_, rfl⟩
  have H2' : Hid (Fvs [⟨w1.heap.size, #[.int .i64 df, .slice dp dn dq], d, w.heap.size, td⟩] w w2 ∧ td ≤ w1.heap.size) := ⟨by rw [htd]; exact H2.out, by rw [htd]; exact Nat.le_refl _⟩
  clear N H1 H2 htd
  generalize w1.heap.size = gd at H2' ⊢
  obtain ⟨bd, hbd⟩ : ∃ b, b = w.heap.size := ⟨_, rfl⟩
  have H2 : Hid (Fvs [⟨gd, #[.int .i64 df, .slice dp dn dq], d, bd, td⟩] w w2 ∧ td ≤ gd) := by rw [hbd]; exact H2'.out
  clear H2' hbd
  obtain ⟨X, hX⟩ : ∃ X, X = d.served := ⟨_, rfl⟩
  obtain ⟨kh, hkh⟩ : ∃ X, X = d.servedI := ⟨_, rfl⟩
  obtain ⟨kf, hkf⟩ : ∃ X, X = d.servedN := ⟨_, rfl⟩
  have C1 := fun w h0 => IS'.out d (.agg #[.int .i64 df, .slice dp dn dq]) w Hd.out h0
  have C3 := fun w h0 => specServed d (.agg #[.int .i64 df, .slice dp dn dq]) w Hd.out h0
  rw [← hX, ← hkh, ← hkf] at C1 C3
  have Hx : Hid (X.big ≤ 1048576) := by rw [hX]; exact big_served Hd.out
  have C1' : Hid _ := C1
  have C3' : Hid _ := C3
  clear hX hkh hkf C1 C3
  refine (C1'.out _ (H2.out.1.is 0 rfl)).mono ?_
  rintro e w3 ⟨⟨v, rfl, iX⟩, q⟩
  obtain ⟨xp, xq, rfl⟩ := iX.cells'
  have H3 : Hid (Fvs [⟨gd, #[.int .i64 df, .slice dp dn dq], d, bd, td⟩] w w3 ∧ FsIn w2.heap.size w3.heap.size w3 (.agg #[.int .i64 X.now, .slice xp X.flows.length xq]) X) := ⟨H2.out.1.below q, iX⟩
  obtain ⟨xf, hxf⟩ : ∃ z, z = X.now := ⟨_, rfl⟩
  obtain ⟨xn, hxn⟩ : ∃ z, z = X.flows.length := ⟨_, rfl⟩
  have Hxx : Hid (xf = X.now ∧ xn = X.flows.length) := ⟨hxf, hxn⟩
  rw [← hxf, ← hxn] at H3 ⊢
  clear q iX H2 C1' hxf hxn
  have N : Hid (Boxed (w3.alloc (.cells #[.int .i64 0, .slice none 0 0] 26)) w3.heap.size #[.int .i64 0, .slice none 0 0] 26) := Boxed.new _ _ _
  have H4 : Hid (Fvs [⟨w3.heap.size, #[.int .i64 xf, .slice xp xn xq], X, w2.heap.size, w3.heap.size⟩, ⟨gd, #[.int .i64 df, .slice dp dn dq], d, bd, td⟩] w ((w3.alloc (.cells #[.int .i64 0, .slice none 0 0] 26)).setRow w3.heap.size #[.int .i64 xf, .slice xp xn xq])) := H3.out.1.store _ H3.out.2 (Nat.le_refl _)
  go_wp2_with (first | (refine wpList_store_row rfl 26 (.tmp _) (.tmp _) rfl w3.heap.size #[.int .i64 xf, .slice xp xn xq] rfl rfl _ _ N.out (by kernel_rfl) rfl (by simp [Value.oneCell']) ?_) | (refine wpList_load_row rfl 26 (.tmp _) rfl w3.heap.size rfl _ _ _ _ (H4.out.at 0 rfl) Try.underlying26 rfl (by kernel_rfl) ?_) | (refine wpList_load_row rfl 26 (.tmp _) rfl gd rfl _ _ _ _ (H4.out.at 1 rfl) Try.underlying26 rfl (by kernel_rfl) ?_))
  generalize (w3.alloc (.cells #[.int .i64 0, .slice none 0 0] 26)).setRow w3.heap.size #[.int .i64 xf, .slice xp xn xq] = w4 at H4 ⊢
  obtain ⟨tx, htx⟩ : ∃ t, t = w3.heap.size := ⟨_, rfl⟩
  have H4' : Hid (Fvs [⟨w3.heap.size, #[.int .i64 xf, .slice xp xn xq], X, w2.heap.size, tx⟩, ⟨gd, #[.int .i64 df, .slice dp dn dq], d, bd, td⟩] w w4 ∧ tx ≤ w3.heap.size) := ⟨by rw [htx]; exact H4.out, by rw [htx]; exact Nat.le_refl _⟩
  clear N H3 H4 htx
  generalize w3.heap.size = gx at H4' ⊢
  generalize w2.heap.size = bx at H4'
  have H4 : Hid (Fvs [⟨gx, #[.int .i64 xf, .slice xp xn xq], X, bx, tx⟩, ⟨gd, #[.int .i64 df, .slice dp dn dq], d, bd, td⟩] w w4 ∧ tx ≤ gx) := H4'.out
  clear H4'
  refine (C3'.out _ (H4.out.1.is 1 rfl)).mono ?_
  rintro e w5 ⟨⟨v, rfl, iX⟩, q⟩
  obtain ⟨sp, sq, rfl⟩ := iX.cells'
  have H5 : Hid (Fvs [⟨gx, #[.int .i64 xf, .slice xp xn xq], X, bx, tx⟩, ⟨gd, #[.int .i64 df, .slice dp dn dq], d, bd, td⟩] w w5 ∧ FsIn w4.heap.size w5.heap.size w5 (.agg #[.int .i64 X.now, .slice sp X.flows.length sq]) X) := ⟨H4.out.1.below q, iX⟩
  rw [← Hxx.out.1, ← Hxx.out.2] at H5 ⊢
  obtain ⟨sf, hyf⟩ : ∃ z, z = xf := ⟨_, rfl⟩
  obtain ⟨sn, hyn⟩ : ∃ z, z = xn := ⟨_, rfl⟩
  have ey : (Value.agg #[.int .i64 xf, .slice sp xn sq]) = .agg #[.int .i64 sf, .slice sp sn sq] := by rw [hyf, hyn]
  rw [ey] at H5 ⊢
  clear q iX H4 C3' hyf hyn ey
  have N : Hid (Boxed (w5.alloc (.cells #[.int .i64 0, .slice none 0 0] 26)) w5.heap.size #[.int .i64 0, .slice none 0 0] 26) := Boxed.new _ _ _
  have H6 : Hid (Fvs [⟨w5.heap.size, #[.int .i64 sf, .slice sp sn sq], X, w4.heap.size, w5.heap.size⟩, ⟨gx, #[.int .i64 xf, .slice xp xn xq], X, bx, tx⟩, ⟨gd, #[.int .i64 df, .slice dp dn dq], d, bd, td⟩] w ((w5.alloc (.cells #[.int .i64 0, .slice none 0 0] 26)).setRow w5.heap.size #[.int .i64 sf, .slice sp sn sq])) := H5.out.1.store _ H5.out.2 (Nat.le_refl _)
  go_upto_region 6 with (first | (refine wpList_store_row rfl 26 (.tmp _) (.tmp _) rfl w5.heap.size #[.int .i64 sf, .slice sp sn sq] rfl rfl _ _ N.out (by kernel_rfl) rfl (by simp [Value.oneCell']) ?_) | (refine wpList_load_row rfl 26 (.tmp _) rfl w5.heap.size rfl _ _ _ _ (H6.out.at 0 rfl) Try.underlying26 rfl (by kernel_rfl) ?_) | (refine wpList_load_row rfl 26 (.tmp _) rfl gx rfl _ _ _ _ (H6.out.at 1 rfl) Try.underlying26 rfl (by kernel_rfl) ?_) | (refine wpList_load_row rfl 26 (.tmp _) rfl gd rfl _ _ _ _ (H6.out.at 2 rfl) Try.underlying26 rfl (by kernel_rfl) ?_))
  generalize (w5.alloc (.cells #[.int .i64 0, .slice none 0 0] 26)).setRow w5.heap.size #[.int .i64 sf, .slice sp sn sq] = w6 at H6 ⊢
  obtain ⟨ts, hts⟩ : ∃ t, t = w5.heap.size := ⟨_, rfl⟩
  have H6' : Hid (Fvs [⟨w5.heap.size, #[.int .i64 sf, .slice sp sn sq], X, w4.heap.size, ts⟩, ⟨gx, #[.int .i64 xf, .slice xp xn xq], X, bx, tx⟩, ⟨gd, #[.int .i64 df, .slice dp dn dq], d, bd, td⟩] w w6 ∧ ts ≤ w5.heap.size) := ⟨by rw [hts]; exact H6.out, by rw [hts]; exact Nat.le_refl _⟩
  clear N H5 H6 hts
  generalize w5.heap.size = gs at H6' ⊢
  generalize w4.heap.size = bs at H6'
  have H6 : Hid (Fvs [⟨gs, #[.int .i64 sf, .slice sp sn sq], X, bs, ts⟩, ⟨gx, #[.int .i64 xf, .slice xp xn xq], X, bx, tx⟩, ⟨gd, #[.int .i64 df, .slice dp dn dq], d, bd, td⟩] w w6 ∧ ts ≤ gs) := H6'.out
  clear H6'
  have H7 : Hid (Fvs [⟨gs, #[.int .i64 sf, .slice sp sn sq], X, bs, ts⟩, ⟨gx, #[.int .i64 xf, .slice xp xn xq], X, bx, tx⟩, ⟨gd, #[.int .i64 df, .slice dp dn dq], d, bd, td⟩] w w6) := H6.out.1
  clear H6
  obtain ⟨ok, hok⟩ : ∃ X, X = d.ok := ⟨_, rfl⟩
  obtain ⟨ch, hch⟩ : ∃ X, X = d.chosen := ⟨_, rfl⟩
  have L1 := fun w h1 h2 => likeFss (.agg #[.int .i64 xf, .slice xp xn xq]) (.agg #[.int .i64 sf, .slice sp sn sq]) X w Hx.out h1 h2
  have K1 := fun w h0 => IK'.out d (.agg #[.int .i64 df, .slice dp dn dq]) w Hd.out h0
  have K2 := fun w h0 => specFairOk d (.agg #[.int .i64 df, .slice dp dn dq]) w Hd.out h0
  have K3 := fun w h0 => IC'.out d (.agg #[.int .i64 df, .slice dp dn dq]) w Hd.out h0
  have K4 := fun w h0 => specChosen d (.agg #[.int .i64 df, .slice dp dn dq]) w Hd.out h0
  rw [← hok] at K1 K2
  rw [← hch] at K3 K4
  have L1' : Hid _ := L1
  have K1' : Hid _ := K1
  have K2' : Hid _ := K2
  have K3' : Hid _ := K3
  have K4' : Hid _ := K4
  clear L1 K1 K2 K3 K4 hok hch
  go_cut [67] (fun s wc => Hid (s = .bool false ∧ Below w.heap.size w wc))
  case first =>
    have Go : Hid (∀ p : BelW w6.heap.size w6, Fvs [⟨gs, #[.int .i64 sf, .slice sp sn sq], X, bs, ts⟩, ⟨gx, #[.int .i64 xf, .slice xp xn xq], X, bx, tx⟩, ⟨gd, #[.int .i64 df, .slice dp dn dq], d, bd, td⟩] w p.w') := fun p => H7.out.below p.h
    have cs0 : ∀ p : BelW w6.heap.size w6, p.w'.cell? ⟨gs, 0, none⟩ = some (.int .i64 sf) := fun p => ((Go.out p).at 0 rfl).cell 0 rfl
    have cs1 : ∀ p : BelW w6.heap.size w6, p.w'.cell? ⟨gs, 1, none⟩ = some (.slice sp sn sq) := fun p => ((Go.out p).at 0 rfl).cell 1 rfl
    have cx0 : ∀ p : BelW w6.heap.size w6, p.w'.cell? ⟨gx, 0, none⟩ = some (.int .i64 xf) := fun p => ((Go.out p).at 1 rfl).cell 0 rfl
    have cx1 : ∀ p : BelW w6.heap.size w6, p.w'.cell? ⟨gx, 1, none⟩ = some (.slice xp xn xq) := fun p => ((Go.out p).at 1 rfl).cell 1 rfl
    have cd0 : ∀ p : BelW w6.heap.size w6, p.w'.cell? ⟨gd, 0, none⟩ = some (.int .i64 df) := fun p => ((Go.out p).at 2 rfl).cell 0 rfl
    have cd1 : ∀ p : BelW w6.heap.size w6, p.w'.cell? ⟨gd, 1, none⟩ = some (.slice dp dn dq) := fun p => ((Go.out p).at 2 rfl).cell 1 rfl
    haveI : Nonempty (BelW w6.heap.size w6) := ⟨⟨w6, Below.refl _ _⟩⟩
    go_wp2_with fail
    cases ok
    · skip
      refine region_below w6.heap.size (by kernel_rfl) (by kernel_rfl) ?_
      repeat (go_big_quiet_step ((first | (go_at_call 11; with_reducible refine quiet_below (Nat.le_refl _) (L1'.out _ ((Go.out _).is 1 rfl) ((Go.out _).is 0 rfl))) | (go_at_call 12; with_reducible refine quiet_below (Nat.le_refl _) (K1'.out _ ((Go.out _).is 2 rfl))) | (go_at_call 13; with_reducible refine quiet_below (Nat.le_refl _) (K2'.out _ ((Go.out _).is 2 rfl))) | (go_at_call 14; with_reducible refine quiet_below (Nat.le_refl _) (K3'.out _ ((Go.out _).is 2 rfl))) | (go_at_call 15; with_reducible refine quiet_below (Nat.le_refl _) (K4'.out _ ((Go.out _).is 2 rfl))))))
      refine wpQuiet_nil ?_
      intro w7 hx
      have H8 : Hid (Below w.heap.size w w7) := (H7.out.below (BelW.out hx)).bel
      clear hx cs0 cs1 cx0 cx1 cd0 cd1
      go_wp2
      go_meet
      exact ⟨rfl, H8.out⟩
    · skip
      refine region_below w6.heap.size (by kernel_rfl) (by kernel_rfl) ?_
      repeat (go_big_quiet_step ((first | (go_at_call 11; with_reducible refine quiet_below (Nat.le_refl _) (L1'.out _ ((Go.out _).is 1 rfl) ((Go.out _).is 0 rfl))) | (go_at_call 12; with_reducible refine quiet_below (Nat.le_refl _) (K1'.out _ ((Go.out _).is 2 rfl))) | (go_at_call 13; with_reducible refine quiet_below (Nat.le_refl _) (K2'.out _ ((Go.out _).is 2 rfl))) | (go_at_call 14; with_reducible refine quiet_below (Nat.le_refl _) (K3'.out _ ((Go.out _).is 2 rfl))) | (go_at_call 15; with_reducible refine quiet_below (Nat.le_refl _) (K4'.out _ ((Go.out _).is 2 rfl))))))
      refine wpQuiet_nil ?_
      intro w7 hx
      have H8 : Hid (Below w.heap.size w w7) := (H7.out.below (BelW.out hx)).bel
      clear hx cs0 cs1 cx0 cx1 cd0 cd1
      go_wp2
      go_meet
      exact ⟨rfl, H8.out⟩
  case rest =>
  obtain ⟨rfl, hP⟩ := hcut.out
  have H8 : Hid (Below w.heap.size w wc) := hP
  clear hcut hP H7 L1' K1' K2' K3' K4' IK' Hd Hx Hxx
  have H9 : Hid (GyB w wc.heap.size (.slice none 0 0) [] [] (.slice (some ⟨wc.heap.size + 1, 0, none⟩) 0 0) [] ((wc.alloc (.cells #[.int .i64 0, .slice none 0 0] 26)).alloc (.cells #[] 2))) := by
    have hs : (wc.alloc (.cells #[.int .i64 0, .slice none 0 0] 26)).heap.size = wc.heap.size + 1 := by simp
    refine ⟨(H8.out.alloc H8.out.size _).alloc (by rw [hs]; have := H8.out.size; omega) _, (Boxed.new _ _ _).more _, FwG.nil _ _, ?_, H8.out.size, fun i k hi => by simp at hi⟩
    have := irow_built (wc.alloc (.cells #[.int .i64 0, .slice none 0 0] 26)) (wc.heap.size + 1) (by rw [hs]; exact Nat.le_refl _)
    rw [hs] at this
    exact this
  have bp : Hid (Below w.heap.size w (wc.alloc (.cells #[.int .i64 0, .slice none 0 0] 26))) := H8.out.alloc H8.out.size _
  go_wp2_with fail
  refine (lawPickS hc 1 3 (by omega) (by omega) (by omega) (by omega) _ bp).mono ?_
  rintro e w9 ⟨⟨z, rfl, z0, z1⟩, hw⟩
  have hw := hw.symm
  subst hw
  obtain ⟨K, hK⟩ : ∃ K : Nat, 2 + z = K := ⟨(2 + z).toNat, by omega⟩
  have kz : IntKind.i64.wrap (2 + z) = (K : Int) := by rw [hK, IntKind.wrap_i64]; omega
  have hK4 : 2 ≤ K ∧ K ≤ 4 := by omega
  clear bp hK z0 z1
  go_wp2_with fail
  generalize (wc.alloc (.cells #[.int .i64 0, .slice none 0 0] 26)).alloc (.cells #[] 2) = w10 at H9 ⊢
  generalize wc.heap.size = gq at H9 ⊢
  go_loopw [12, 13, 14, 15] (fun mvv i _ _ wr => ∃ k : Nat, k ≤ K ∧ i = .int .i64 k ∧ Hid (GyR1 w gq k mvv wr)) (fun _ i _ _ _ => K - (intOf i).toNat)
  case atStart => exact ⟨0, Nat.zero_le _, rfl, _, _, _, _, H9.out, GyP.nil, rfl⟩
  case round =>
    obtain ⟨k, hkK, rfl, HE⟩ := hrel
    clear H9 kz
    obtain ⟨v, rs, l, ms, HR⟩ : ∃ v rs l ms, Hid (GyB w gq v rs l u12 ms wr ∧ GyP l ms ∧ l.length = k) := HE.out
    clear HE
    obtain ⟨mx, mc, emv⟩ := HR.out.1.m.shape
    subst emv
    obtain ⟨wr0, rfl⟩ : ∃ wr0, wr0 = wr := ⟨_, rfl⟩
    by_cases hk : k < K
    case neg =>
      obtain rfl : K = k := by omega
      clear hk hkK
      obtain ⟨va, vc, ev⟩ := fwrows_shape HR.out.1.g.outer
      have hll := HR.out.2.2
      have hB : Hid (Below w.heap.size w wr0) := HR.out.1.bel
      obtain ⟨ws, hws⟩ : ∃ ws, ws = l.map Fw.weight := ⟨_, rfl⟩
      have HWs : Hid (ws.length = K ∧ (∀ x, x < K → szAt ms x = 200 * (2520 / szAt ws x)) ∧ (∀ x, x < K → 1 ≤ szAt ws x ∧ szAt ws x ≤ 10) ∧ ms.length = K) := by
        have hw : ∀ x, x < l.length → szAt ws x = (fwAt l x).weight := fun x hx => by
          rw [hws]
          unfold szAt
          rw [List.getElem?_map, List.getElem?_eq_getElem hx, fwAt_lt hx]
          rfl
        refine ⟨by rw [hws, List.length_map, hll], fun x hx => ?_, fun x hx => ?_, by rw [HR.out.2.1.len, hll]⟩
        · rw [HR.out.2.1.mo x (by omega), hw x (by omega)]
        · rw [hw x (by omega)]; exact (HR.out.2.1.fl x (by omega)).2.1
      have HG0 : Hid (Gy ⟨0, l⟩ ws 40 0) := by rw [hws]; exact HR.out.2.1.begin (by omega) (by omega)
      have HM0 : Hid (GyM w gq wr0.heap.size K (.slice mx ms.length mc) ms (List.replicate K 0) ⟨0, l⟩ (gq + 1) wr0.heap.size va vc (wr0.alloc (.cells (madeCells #[.int .i64 0] K) 2))) := by
        have := GyM.begin HR.out.1 ev (by omega)
        rw [hll, Nat.mul_one] at this
        exact this
      have hmk := mkInts_run K (by omega)
      clear HR hll ev hws
      go_wp2_with fail
      refine (lawPickS hc 5 20 (by omega) (by omega) (by omega) (by omega) _ hB).mono ?_
      rintro e w11 ⟨⟨fr, rfl, f0, f1⟩, hw⟩
      have hw := hw.symm
      subst hw
      go_wp2_with fail
      generalize wr0.alloc (.cells (madeCells #[.int .i64 0] K) 2) = w10 at HM0 ⊢
      generalize wr0.heap.size = S at HM0 ⊢
      have HR3 : Hid (GyR3 w gq S K (.slice mx ms.length mc) ms ws fr 0 w10) := ⟨_, _, _, _, _, _, HM0.out, by simpa using HG0.out, GyS.begin HG0.out fun x hx => by unfold szAt; rw [HWs.out.1] at hx; simp [hx]⟩
      clear HM0 HG0 hmk hB
      go_loopg [18, 19, 20, 21, 22, 23] 36 (fun g s18 _ _ _ _ _ wx => ∃ i : Nat, i + g = 36 ∧ s18 = .int .i64 i ∧ Hid (GyR3 w gq S K (.slice mx ms.length mc) ms ws fr i wx))
      case atStart => exact ⟨0, by omega, rfl, HR3.out⟩
      case round =>
        obtain ⟨i, hig, rfl, HE⟩ := hrel
        clear HR3
        obtain ⟨D, b, t, p, c, ss, HM⟩ : ∃ D b t p c ss, Hid (GyM w gq S K (.slice mx ms.length mc) ms ss D b t p c wr ∧ Gy D ws (40 - (i : Int)) (504000 * (i : Int)) ∧ GyS ws D ss fr i) := HE.out
        clear HE
        cases gk with
        | zero =>
          have e36 : ¬ (i : Int) < 36 := by omega
          go_wp2
          go_ret
          exact ⟨rfl, HM.out.1.bel⟩
        | succ g =>
          have hi36 : (i : Int) < 36 := by omega
          have hw0 : 0 < ws.length := by rw [HWs.out.1]; omega
          obtain ⟨bb, -, hch, hI, hbK, hN, hNb, hfin, hG2⟩ := HM.out.2.1.step (by omega) hw0 (by omega) (by omega)
          have hbig : D.big ≤ 1048576 := by have := Fs.ok_big HM.out.2.1.ok; omega
          obtain ⟨E, hE⟩ : ∃ E, E = D.served := ⟨_, rfl⟩
          obtain ⟨nn, hnn⟩ : ∃ nn, nn = D.servedN := ⟨_, rfl⟩
          have C1 := fun w h0 => IS'.out D (.agg #[.int .i64 D.now, .slice p K c]) w hbig h0
          have C2 := fun w h0 => IC'.out D (.agg #[.int .i64 D.now, .slice p K c]) w hbig h0
          rw [hI, ← hnn, ← hE] at C1
          rw [hch] at C2
          rw [← hE, ← hnn] at hfin
          rw [← hE] at hG2
          rw [← hnn] at hNb
          rw [HWs.out.1] at hbK
          have HG2 : Hid (Gy E ws (40 - ((i + 1 : Nat) : Int)) (504000 * ((i + 1 : Nat) : Int))) := by
            have h1 : 40 - ((i + 1 : Nat) : Int) = 40 - (i : Int) - 1 := by omega
            have h2 : 504000 * ((i + 1 : Nat) : Int) = 504000 * (i : Int) + 504000 := by omega
            show Gy _ _ _ _
            rw [h1, h2]
            exact hG2
          have Hfin : Hid (∀ x, x < ws.length → (fwAt E.flows x).finish = (fwAt D.flows x).finish + if x = bb then nn * (2520 / szAt ws bb) else 0) := hfin
          have hEK : Hid (E.flows.length = K) := by show E.flows.length = K; rw [HG2.out.len, HWs.out.1]
          have C1' : Hid _ := C1
          have C2' : Hid _ := C2
          clear C1 C2 hfin hG2 hN hch hI hE hnn hbig hw0
          go_wp2_with (refine wpList_load_row rfl 26 (.tmp 10) rfl gq rfl _ _ _ _ HM.out.1.q Try.underlying26 rfl (by kernel_rfl) ?_)
          refine (C1'.out _ HM.out.1.d.at).mono ?_
          rintro e w3 ⟨⟨v, rfl, iE⟩, q⟩
          obtain ⟨yp, yc, rfl⟩ := iE.cells'
          rw [hEK.out] at iE ⊢
          have M3 : Hid (GyM w gq S K (.slice mx ms.length mc) ms ss D b t p c w3) := HM.out.1.below q
          have N : Hid (Boxed (w3.alloc (.cells #[.int .i64 0, .slice none 0 0] 26)) w3.heap.size #[.int .i64 0, .slice none 0 0] 26) := Boxed.new _ _ _
          have Y4 : Hid (GyY w3.heap.size S K E wr.heap.size w3.heap.size yp yc ((w3.alloc (.cells #[.int .i64 0, .slice none 0 0] 26)).setRow w3.heap.size #[.int .i64 E.now, .slice yp K yc])) := GyY.new iE hEK.out HM.out.1.under (Nat.le_refl _) M3.out.under
          have M4 : Hid (GyM w gq S K (.slice mx ms.length mc) ms ss D b t p c ((w3.alloc (.cells #[.int .i64 0, .slice none 0 0] 26)).setRow w3.heap.size #[.int .i64 E.now, .slice yp K yc])) := M3.out.below (below_setRow ((Below.refl _ _).alloc (Nat.le_refl _) _) (Nat.le_refl _) _)
          have HS : Hid (GyS ws D ss fr i ∧ Gy D ws (40 - (i : Int)) (504000 * (i : Int))) := ⟨HM.out.2.2, HM.out.2.1⟩
          clear iE q M3 HM C1'
          go_upto_region 27 with (refine wpList_store_row rfl 26 (.tmp 19) (.tmp 123) rfl w3.heap.size #[.int .i64 E.now, .slice yp K yc] rfl rfl _ _ N.out (by kernel_rfl) rfl (by simp [Value.oneCell']) ?_)
          generalize (w3.alloc (.cells #[.int .i64 0, .slice none 0 0] 26)).setRow w3.heap.size #[.int .i64 E.now, .slice yp K yc] = w4 at Y4 M4 ⊢
          clear N
          generalize w3.heap.size = gy at Y4 ⊢
          generalize wr.heap.size = b' at Y4
          have d0 : decide ((bb : Int) < 0) = false := decide_eq_false (by omega)
          have cg0 : w4.cell? ⟨gq, 0, none⟩ = some (.int .i64 D.now) := M4.out.q.cell 0 rfl
          have cg1 : w4.cell? ⟨gq, 1, none⟩ = some (.slice p K c) := M4.out.q.cell 1 rfl
          go_wp2_with fail
          refine (C2'.out _ M4.out.d.at).mono ?_
          rintro e w5 ⟨rfl, q⟩
          have M5 : Hid (GyM w gq S K (.slice mx ms.length mc) ms ss D b t p c w5) := M4.out.below q
          have Y5 : Hid (GyY gy S K E b' gy yp yc w5) := Y4.out.below q
          clear q M4 Y4 C2' cg0 cg1
          go_upto_if 136 with fail
          clear d0
          go_cut [] from 116 to 191 (fun wc => Hid (GyT w gq gy S K (.slice mx ms.length mc) ms ws fr i E b' gy yp yc wc))
          case first =>
            by_cases hf : fr ≤ (i : Int)
            · obtain ⟨xg, xo, ak, ck, ep, hg, c0, -⟩ := M5.out.flow hbK
              subst ep
              obtain ⟨s0, s1⟩ := M5.out.sum hbK
              have cq : w5.cell? ⟨gq, 1, none⟩ = some (.slice (some ⟨xg, xo, none⟩) K c) := M5.out.q.cell 1 rfl
              have hSl : S < w5.heap.size := M5.out.under
              have hwt := HWs.out.2.2.1 bb hbK
              have hb0 := HS.out.1.bound HS.out.2 (a := bb) (b := bb) (by rw [HWs.out.1]; exact hbK) (by rw [HWs.out.1]; exact hbK)
              have ewt := HS.out.2.wt bb (by rw [HWs.out.1]; exact hbK)
              rw [ewt] at c0
              have PM : Hid (∀ z, GyM w gq S K (.slice mx ms.length mc) ms (ss.set bb z) D b t (some ⟨xg, xo, none⟩) c (w5.setCell ⟨S, bb, none⟩ (.int .i64 z)).drew ∧ GyY gy S K E b' gy yp yc (w5.setCell ⟨S, bb, none⟩ (.int .i64 z)).drew) := fun z => ⟨(M5.out.add bb z).below (Below.refl _ _).drew, (Y5.out.add bb _).below (Below.refl _ _).drew⟩
              have PS : Hid (GyS ws E (ss.set bb (szAt ss bb + nn * (2520 / szAt ws bb))) fr ((i : Int) + 1)) := HS.out.1.go (by rw [HWs.out.1]; exact hbK) (by rw [M5.out.sl, HWs.out.1]) (Int.mul_nonneg (by omega) (by have := (div2520 hwt 0).2.2; omega)) Hfin.out hf
              have hdv := div2520 hwt nn
              have hdl : nn * (2520 / szAt ws bb) ≤ 200 * 2520 := Int.mul_le_mul hNb.2 hdv.2.2.2 (by omega) (by omega)
              have hdp : 0 ≤ nn * (2520 / szAt ws bb) := Int.mul_nonneg (by omega) (by omega)
              have ktd : Int.tdiv (nn * 2520) (szAt ws bb) = nn * (2520 / szAt ws bb) := by rw [Int.tdiv_eq_ediv_of_nonneg (by omega)]; exact hdv.1
              obtain ⟨dv, hdve⟩ : ∃ dv, nn * (2520 / szAt ws bb) = dv := ⟨_, rfl⟩
              rw [hdve] at PS hdl hdp ktd
              generalize szAt ws bb = wt at c0 ktd hwt
              generalize szAt ss bb = sb at s0 PS hb0
              have P6 := PM.out (sb + dv)
              have kz : ¬ wt = 0 := by omega
              have kw1 : IntKind.i64.wrap (nn * 2520) = nn * 2520 := by rw [IntKind.wrap_i64]; omega
              have kw2 : IntKind.i64.wrap dv = dv := by rw [IntKind.wrap_i64]; omega
              have kw3 : IntKind.i64.wrap (sb + dv) = sb + dv := by rw [IntKind.wrap_i64]; omega
              have P7 : Hid (GyT w gq gy S K (.slice mx ms.length mc) ms ws fr i E b' gy yp yc (w5.setCell ⟨S, bb, none⟩ (.int .i64 (sb + dv))).drew) := ⟨_, _, _, _, _, _, P6.1, P6.2, PS.out⟩
              have hbK' : (bb : Int) < (K : Int) := by omega
              clear hdve P6 PM PS hb0 hdv HS Hfin hwt hdl hdp hNb M5 Y5 ewt
              go_upto_region 30 with fail
              go_region
              go_wp2_with fail
              go_meet
              exact P7.out
            · have hf' : (i : Int) < fr := by omega
              have P7 : Hid (GyT w gq gy S K (.slice mx ms.length mc) ms ws fr i E b' gy yp yc w5) := ⟨_, _, _, _, _, _, M5.out, Y5.out, HS.out.1.wait HG2.out hf'⟩
              clear M5 Y5 HS
              go_wp2_with fail
              go_meet
              exact P7.out
          case rest =>
          obtain ⟨D2, b2, t2, p2, c2, s2, H6⟩ : ∃ D b t p c ss, Hid (GyM w gq S K (.slice mx ms.length mc) ms ss D b t p c wc ∧ GyY gy S K E b' gy yp yc wc ∧ GyS ws E ss fr ((i : Int) + 1)) := hcut.out
          clear hcut M5 Y5 HS Hfin
          have M7 : Hid (GyM w gq S K (.slice mx ms.length mc) ms s2 E b' gy yp yc (wc.setRow gq #[.int .i64 E.now, .slice yp K yc])) := H6.out.1.next H6.out.2.1.mem hEK.out H6.out.2.1.sb H6.out.2.1.tt
          go_upto_region 32 with (first | (refine wpList_load_row rfl 26 (.tmp 19) rfl gy rfl _ _ _ _ H6.out.2.1.box Try.underlying26 rfl (by kernel_rfl) ?_) | (refine wpList_store_row rfl 26 (.tmp 10) (.tmp 154) rfl gq #[.int .i64 E.now, .slice yp K yc] rfl rfl _ _ H6.out.1.q (by kernel_rfl) rfl (by simp [Value.oneCell']) ?_))
          have HS7 : Hid (GyS ws E s2 fr ((i : Int) + 1)) := H6.out.2.2
          generalize wc.setRow gq #[.int .i64 E.now, .slice yp K yc] = w7 at M7 ⊢
          clear H6
          go_wp2_with fail
          go_loopw [22, 23] (fun sa _ wx => ∃ x : Nat, x ≤ K ∧ sa = .int .i64 x ∧ Hid (GyM w gq S K (.slice mx ms.length mc) ms s2 E b' gy yp yc wx)) (fun sa _ _ => K - (intOf sa).toNat)
          case atStart => exact ⟨0, Nat.zero_le _, rfl, M7⟩
          case round =>
            obtain ⟨x, hxK, rfl, M8⟩ := hrel
            clear M7
            obtain ⟨wa, rfl⟩ : ∃ wa, wa = wr := ⟨_, rfl⟩
            by_cases hx : x < K
            case neg =>
              obtain rfl : K = x := by omega
              have RR : Hid (GyR3 w gq S K (.slice mx ms.length mc) ms ws fr (i + 1) wa) := ⟨_, _, _, _, _, _, M8.out, HG2.out, HS7.out⟩
              clear M8 HS7 HG2
              go_wp2
              go_roundg g
              case measure => omega
              case rel => exact ⟨i + 1, by omega, by go_num, RR⟩
            have hx' : (x : Int) < (K : Int) := by omega
            obtain ⟨xg, xo, ak, ck, ep, hg, -, c2⟩ := M8.out.flow hx
            have hsz := HG2.out.sz x (by rw [HWs.out.1]; exact hx)
            generalize (fwAt E.flows x).sizes.length = ln at c2 hsz
            have hln : (ln == 0) = false := by simp; omega
            have hln2 : ¬ (ln : Int) = 0 := by omega
            have cq : wa.cell? ⟨gq, 1, none⟩ = some (.slice yp K yc) := M8.out.q.cell 1 rfl
            rw [ep] at cq
            go_wp2_with fail
            clear c2 hg cq hln hln2 hsz ep
            go_loopw [23] (fun sb wx => ∃ y : Nat, y ≤ K ∧ sb = .int .i64 y ∧ Hid (GyM w gq S K (.slice mx ms.length mc) ms s2 E b' gy yp yc wx)) (fun sb _ => K - (intOf sb).toNat)
            case atStart => exact ⟨0, Nat.zero_le _, rfl, M8⟩
            case round =>
              obtain ⟨y, hyK, rfl, M9⟩ := hrel
              clear M8
              by_cases hy : y < K
              case neg =>
                obtain rfl : K = y := by omega
                go_wp2
                go_roundw
                case rel => exact ⟨x + 1, by omega, by go_num, M9⟩
                case measure => simp [intOf]; omega
              have hy' : (y : Int) < (K : Int) := by omega
              have hm : ms.length = K := HWs.out.2.2.2
              obtain ⟨sx, -⟩ := M9.out.sum hx
              obtain ⟨sy, -⟩ := M9.out.sum hy
              obtain ⟨g1, o1, em, l1, mx1⟩ := M9.out.most rfl rfl (i := x) (by rw [hm]; exact hx)
              obtain ⟨g2, o2, em2, l2, my1⟩ := M9.out.most rfl rfl (i := y) (by rw [hm]; exact hy)
              rw [em] at em2
              cases em2
              have hbd := HS7.out.bound HG2.out (a := x) (b := y) (by rw [HWs.out.1]; exact hx) (by rw [HWs.out.1]; exact hy)
              rw [HWs.out.2.1 x hx] at mx1
              rw [HWs.out.2.1 y hy] at my1
              have v1 := (div2520 (HWs.out.2.2.1 x hx) 0).2.2
              have v2 := (div2520 (HWs.out.2.2.1 y hy) 0).2.2
              have hxm : (x : Int) < (ms.length : Int) := by omega
              have hym : (y : Int) < (ms.length : Int) := by omega
              generalize 2520 / szAt ws x = vx at mx1 hbd v1
              generalize 2520 / szAt ws y = vy at my1 hbd v2
              obtain ⟨ux, hux⟩ : ∃ u, 200 * vx = u := ⟨_, rfl⟩
              obtain ⟨uy, huy⟩ : ∃ u, 200 * vy = u := ⟨_, rfl⟩
              rw [hux] at mx1 hbd
              rw [huy] at my1 hbd
              have ub1 : 0 ≤ ux ∧ ux ≤ 504000 := by omega
              have ub2 : 0 ≤ uy ∧ uy ≤ 504000 := by omega
              generalize szAt s2 x = zx at sx hbd
              generalize szAt s2 y = zy at sy hbd
              have kw1 : IntKind.i64.wrap (zx - zy) = zx - zy := by rw [IntKind.wrap_i64]; omega
              have kw2 : IntKind.i64.wrap (ux + uy) = ux + uy := by rw [IntKind.wrap_i64]; omega
              have kle : ¬ ux + uy < zx - zy := by omega
              have kle2 : decide (ux + uy < zx - zy) = false := decide_eq_false kle
              clear hm hux huy v1 v2 hbd ub1 ub2
              subst em
              have hSl : S < wr.heap.size := M9.out.under
              go_upto_region 40 with fail
              go_quiet (fail)
              have MA : Hid (GyM w gq S K (.slice (some ⟨g1, o1, none⟩) ms.length mc) ms s2 E b' gy yp yc (wr.drewN nq)) := M9.out.below ⟨rfl, rfl, rfl, Nat.le_refl _, fun _ _ => rfl⟩
              clear M9
              go_wp2
              go_roundw
              case rel => exact ⟨y + 1, by omega, by go_num, MA⟩
              case measure => simp [intOf]; omega
    have hkl : (k : Int) < (K : Int) := by omega
    have kk : IntKind.i64.wrap (10 + (k : Int)) = 10 + (k : Int) := by rw [IntKind.wrap_i64]; omega
    go_wp2_with fail
    refine (lawPickS hc (10 + (k : Int)) 10 (by omega) (by omega) (by omega) (by omega) _ HR.out.1.bel).mono ?_
    rintro e w11 ⟨⟨z, rfl, z0, z1⟩, hw⟩
    have hw := hw.symm
    subst hw
    obtain ⟨wt, hwt⟩ : ∃ wt : Int, 1 + z = wt := ⟨_, rfl⟩
    have kw : IntKind.i64.wrap (1 + z) = wt := by rw [hwt, IntKind.wrap_i64]; omega
    have hwt10 : Hid (1 ≤ wt ∧ wt ≤ 10) := by show 1 ≤ wt ∧ wt ≤ 10; omega
    have X0 : Hid (GyI w gq v rs l (.slice mx ms.length mc) ms wr0.heap.size wt (.slice none 0 0) [] (wr0.alloc (.cells #[.int .i64 wt, .int .i64 0, .slice none 0 0] 36))) := GyI.first HR.out.1 wt
    have HP : Hid (GyP l ms ∧ l.length = k) := HR.out.2
    clear z0 z1 hwt HR kk
    go_wp2_with fail
    generalize wr0.alloc (.cells #[.int .i64 wt, .int .i64 0, .slice none 0 0] 36) = wh at X0 ⊢
    generalize wr0.heap.size = H at X0 ⊢
    clear kw
    go_loopw [15] (fun s wr => ∃ i : Nat, i ≤ 40 ∧ s = .int .i64 i ∧ Hid (GyR2 w gq v rs l (.slice mx ms.length mc) ms H wt i wr)) (fun s _ => 40 - (intOf s).toNat)
    case atStart => exact ⟨0, by omega, rfl, _, _, X0.out, rfl, fun y hy => by cases hy⟩
    case round =>
      obtain ⟨i, hi40, rfl, HE⟩ := hrel
      clear X0
      obtain ⟨u, sz, HF⟩ : ∃ u sz, Hid (GyI w gq v rs l (.slice mx ms.length mc) ms H wt u sz wr ∧ sz.length = i ∧ ∀ y ∈ sz, 1 ≤ y ∧ y ≤ 200) := HE.out
      clear HE
      obtain ⟨ux, uc, eu⟩ := HF.out.1.r.shape
      have hsl := HF.out.2.1
      rw [hsl] at eu
      subst eu
      have Hsl : Hid (sz.length = i) := hsl
      clear hsl
      by_cases hi : i < 40
      case neg =>
        have e40 : i = 40 := by omega
        subst e40
        obtain ⟨va, vc, ev⟩ := fwrows_shape HF.out.1.d.g.outer
        subst ev
        have hll : l.length ≤ 1048576 := by have := HP.out.2; omega
        go_upto_region 19 with fail
        have cv : wr.cell? ⟨gq, 1, none⟩ = some (.slice va l.length vc) := HF.out.1.d.q.cell 1 rfl
        have ba : Below wr.heap.size wr (wr.alloc (.cells #[.int .i64 wt, .int .i64 0, .slice ux 40 uc] 36)) := (Below.refl _ _).alloc (Nat.le_refl _) _
        have HA : Hid (GyI w gq (.slice va l.length vc) rs l (.slice mx ms.length mc) ms H wt (.slice ux 40 uc) sz (wr.alloc (.cells #[.int .i64 wt, .int .i64 0, .slice ux 40 uc] 36)) ∧ Boxed (wr.alloc (.cells #[.int .i64 wt, .int .i64 0, .slice ux 40 uc] 36)) wr.heap.size #[.int .i64 wt, .int .i64 0, .slice ux 40 uc] 36 ∧ gq + 1 ≤ (wr.alloc (.cells #[.int .i64 wt, .int .i64 0, .slice ux 40 uc] 36)).heap.size) := ⟨HF.out.1.below ba, Boxed.new _ _ _, by have h1 := HF.out.1.d.q.under; have h2 := ba.size; omega⟩
        have Nx : Hid (∀ v' wn, wn.ownsRow (gq + 1) 36 3 v' (l.length + 1) (fwcells (rs ++ [⟨wt, 0, .slice ux 40 uc⟩])) → Below (gq + 1) (wr.alloc (.cells #[.int .i64 wt, .int .i64 0, .slice ux 40 uc] 36)) wn → (∀ y, (Value.slice va l.length vc).ownBlock ≠ some y → y < (wr.alloc (.cells #[.int .i64 wt, .int .i64 0, .slice ux 40 uc] 36)).heap.size → wn.heap[y]? = (wr.alloc (.cells #[.int .i64 wt, .int .i64 0, .slice ux 40 uc] 36)).heap[y]?) → (GyB w gq v' (rs ++ [⟨wt, 0, .slice ux 40 uc⟩]) (l ++ [⟨wt, 0, sz⟩]) (.slice mx ms.length mc) ms (wn.setCell ⟨gq, 1, none⟩ v') ∧ Boxed (wn.setCell ⟨gq, 1, none⟩ v') H #[.int .i64 wt, .int .i64 0, .slice ux 40 uc] 36) ∧ wn.cell? ⟨gq, 1, none⟩ = some (.slice va l.length vc) ∧ wn.frozen? ⟨gq, 1, none⟩ = false) := fun v' wn q1 q2 q3 =>
          ⟨HA.out.1.done q1 q2 q3, by rw [q2.cell (p := ⟨gq, 1, none⟩) (by show gq < gq + 1; omega)]; exact HA.out.1.d.q.cell 1 rfl, by rw [ice_kept (q2.block gq (by omega))]; exact HA.out.1.d.q.ice 1⟩
        have Hgo : Hid ((wr.alloc (.cells #[.int .i64 wt, .int .i64 0, .slice ux 40 uc] 36)).ownsRow (gq + 1) 36 3 (.slice va l.length vc) l.length (fwcells rs)) := HA.out.1.d.g.outer
        have HPn : Hid (GyP (l ++ [⟨wt, 0, sz⟩]) (ms ++ [200 * (2520 / wt)]) ∧ (l ++ [(⟨wt, 0, sz⟩ : Fw)]).length = k + 1) := ⟨HP.out.1.add hwt10.out Hsl.out HF.out.2.2, by rw [List.length_append, List.length_singleton, HP.out.2]⟩
        have Hms : Hid (ms.length = k) := by show ms.length = k; rw [HP.out.1.len, HP.out.2]
        clear ba
        generalize hgn : l.length = n at *
        clear hgn
        go_upto_region 20 with (first | (refine wpList_load_row rfl 36 (.tmp 14) rfl H rfl _ _ _ _ HF.out.1.hb Try.underlying36 rfl (by kernel_rfl) ?_) | (refine fw_row_one rfl (.tmp 101) (.tmp 103) rfl (gq + 1) (.slice va n vc) n rs ⟨wt, 0, .slice ux 40 uc⟩ rfl rfl Hgo.out rfl HA.out.2.1 hll HA.out.2.2 ?_; intro v' wn q1 q2 q3; obtain ⟨vx, vd, ex⟩ := fwrows_shape q1; subst ex; have RS := Nx.out _ wn q1 q2 q3; have R : Hid _ := RS.1; have f1 := RS.2.1; have f2 := RS.2.2; clear RS q1 q2 q3))
        generalize wn.setCell ⟨gq, 1, none⟩ (.slice vx (n + 1) vd) = w5 at R ⊢
        clear f1 f2 Nx HA Hgo HF cv
        obtain ⟨mo, hmo⟩ : ∃ mo : Int, 200 * (2520 / wt) = mo := ⟨_, rfl⟩
        have hd := div2520 hwt10.out 0
        have m1 : Int.tdiv 504000 wt = mo := by rw [← hmo]; exact hd.2.1
        have m2 : IntKind.i64.wrap mo = mo := by rw [IntKind.wrap_i64]; omega
        have m3 : ¬ wt = 0 := by have := hwt10.out; omega
        have cw : w5.cell? ⟨H, 0, none⟩ = some (.int .i64 wt) := R.out.2.cell 0 rfl
        rw [hmo] at HPn
        have bo : Below w5.heap.size w5 (w5.alloc (.cells #[.int .i64 mo] 2)) := (Below.refl _ _).alloc (Nat.le_refl _) _
        have HO : Hid (GyB w gq (.slice vx (n + 1) vd) (rs ++ [⟨wt, 0, .slice ux 40 uc⟩]) (l ++ [⟨wt, 0, sz⟩]) (.slice mx ms.length mc) ms (w5.alloc (.cells #[.int .i64 mo] 2)) ∧ IntsAt (w5.alloc (.cells #[.int .i64 mo] 2)) (some ⟨w5.heap.size, 0, none⟩) [mo] ∧ gq + 1 ≤ (w5.alloc (.cells #[.int .i64 mo] 2)).heap.size) := ⟨R.out.1.below bo, ints_new w5 2 [mo] #[.int .i64 mo] w5.heap.size rfl rfl, by have h1 := R.out.1.q.under; have h2 := bo.size; omega⟩
        have HM : Hid (IRow (gq + 1) (w5.alloc (.cells #[.int .i64 mo] 2)) (.slice mx ms.length mc) ms) := HO.out.1.m
        clear bo hd hmo R
        go_wp2_with (refine int_row_app rfl (.tmp 106) (.tmp 110) rfl (gq + 1) (.slice mx ms.length mc) ms (some ⟨w5.heap.size, 0, none⟩) 1 1 [mo] rfl rfl rfl HM.out HO.out.2.1 (fun h => by cases h) (by rw [Hms.out]; simp only [List.length_singleton]; omega) HO.out.2.2 ?_; intro mv' wm q1 q2 q3 q4; have Rm : Hid _ := HO.out.1.most q1 q2 q3 q4; clear q1 q2 q3 q4)
        go_roundw
        case rel => exact ⟨k + 1, by omega, by go_num, _, _, _, _, Rm.out, HPn.out.1, HPn.out.2⟩
        case measure => simp [intOf]; omega
      have hil : (i : Int) < 40 := by omega
      have cH : wr.cell? ⟨H, 2, none⟩ = some (.slice ux i uc) := HF.out.1.hb.cell 2 rfl
      have k1 : IntKind.i64.wrap (100 * (k : Int)) = 100 * (k : Int) := by rw [IntKind.wrap_i64]; omega
      have k2 : IntKind.i64.wrap (100 * (k : Int) + (i : Int)) = 100 * (k : Int) + (i : Int) := by rw [IntKind.wrap_i64]; omega
      have Cd : Hid (Below w.heap.size w wr.drew) := HF.out.1.d.bel.drew
      have P := fun (_ : Nat) => lawPickS (cap := cap) hc (100 * (k : Int) + (i : Int)) 200 (by omega) (by omega) (by omega) (by omega) wr.drew Cd
      have P' : Hid _ := P
      clear P
      go_upto_region 18 with fail
      go_region_law (first | (refine stepCall rfl 16 rfl #[.slice a len cap, .int .i64 (100 * (k : Int) + (i : Int)), .int .i64 200] (by kernel_rfl) (P'.out 0) ?_; rintro e w3 ⟨⟨z, rfl, z0, z1⟩, hw3⟩; have H3 : Hid (GyI w gq v rs l (.slice mx ms.length mc) ms H wt (.slice ux i uc) sz w3) := (by rw [hw3]; exact HF.out.1.below (Below.refl _ _).drew); obtain ⟨zz, hzz⟩ : ∃ zz : Int, 1 + z = zz := ⟨_, rfl⟩; have kz : IntKind.i64.wrap (1 + z) = zz := (by rw [hzz, IntKind.wrap_i64]; omega); have hz2 : Hid (1 ≤ zz ∧ zz ≤ 200) := (show 1 ≤ zz ∧ zz ≤ 200 by omega); have x1 : w3.cell? ⟨H, 2, none⟩ = some (.slice ux i uc) := H3.out.hb.cell 2 rfl; have lh : H < w3.heap.size := H3.out.hb.under; clear hw3 z0 z1 hzz) | (refine int_step_app rfl (.tmp 89) (.tmp 97) rfl (H + 1) (.slice ux i uc) sz (some ⟨w3.heap.size, 0, none⟩) 1 1 [zz] rfl rfl rfl (H3.out.r.alloc _) (ints_new w3 2 [zz] #[.int .i64 zz] w3.heap.size rfl rfl) (fun h => by cases h) (by rw [Hsl.out]; simp only [List.length_singleton]; omega) (by simp; omega) ?_; intro u' wn q1 q2 q3 q4; have q6 : Below (H + 1) w3 wn := ((Below.refl _ w3).alloc (by omega) _).trans q2; obtain ⟨uy, ud, ey⟩ := q1.shape; rw [List.length_append, List.length_singleton, Hsl.out] at ey; subst ey; have R : Hid _ := H3.out.add q1 q6; have f1 : wn.cell? ⟨H, 2, none⟩ = some (.slice ux i uc) := (by rw [q6.cell (p := ⟨H, 2, none⟩) (by show H < H + 1; omega)]; exact x1); have f2 : wn.frozen? ⟨H, 2, none⟩ = false := (by rw [ice_kept (q6.block H (by omega))]; exact H3.out.hb.ice 2); clear q1 q2 q3 q4 q6))
      all_goals (
        go_wp2
        go_roundw
        case rel => exact ⟨i + 1, by omega, by go_num, _, _, R.out, by rw [List.length_append, List.length_singleton, Hsl.out], fun y hy => by rcases List.mem_append.1 hy with hy | hy; exact HF.out.2.2 y hy; rw [List.mem_singleton] at hy; rw [hy]; exact hz2.out⟩
        case measure => simp [intOf]; omega)
end Go.Proofs.Ytllmkolchgmjoaa
