/-
  The walk of the exact law of ClassOf. By the verifier, by program.
-/
import Derived.Test.YtcafobokdfglfaaRuClsI
import Derived.Test.YtcafobokdfglfaaRuCopy
import Derived.Test.YtcafobokdfglfaaFrSz
import Derived.Deep.RegionWith
import Derived.Deep.DeepCutAuto
namespace Go.Proofs.Ytcafobokdfglfaa
open Go.RowKit

/-- A frame's block, its tags, and the rules. -/
structure CfS (w : World) (B : Nat) (fc : Array Value) (a : Option Addr) (ft : List Int) (al : Option Addr) (l : List Ru) (W : World) : Prop where
  bel : Below w.heap.size w W
  fb : Boxed W B fc 33
  ints : IntsAt W a ft
  rus : RusAt W al l
theorem CfS.below {w : World} {B : Nat} {fc : Array Value} {a : Option Addr} {ft : List Int} {al : Option Addr} {l : List Ru} {W W' : World} (h : CfS w B fc a ft al l W) (q : Below W.heap.size W W') : CfS w B fc a ft al l W' :=
  ⟨h.bel.trans (q.mono h.bel.size), h.fb.below h.fb.under q, ints_bel h.ints q, h.rus.below q⟩
theorem CfS.drew {w : World} {B : Nat} {fc : Array Value} {a : Option Addr} {ft : List Int} {al : Option Addr} {l : List Ru} {W : World} (h : CfS w B fc a ft al l W) : CfS w B fc a ft al l W.drew := h.below (Below.refl _ _).drew

set_option maxHeartbeats 6400000 in
set_option maxRecDepth 100000 in
theorem fnExactClassOf_walk (l : List Ru) (al : Option Addr) (cl : Nat) (f : Fr) (a : Option Addr) (c : Nat) (w : World) (hll : (l.length : Int) ≤ 9223372036854775807) (hr : Hid (RusAt w al l)) (hl : (f.tags.length : Int) ≤ 9223372036854775807) (hB : (f.body.size : Int) ≤ 9223372036854775807) (hc : Hid (IntsAt w a f.tags)) :
    Calls Try.prog 5 #[.slice al l.length cl, f.val a c] w fun e w' => e = .returned (.bool true) ∧ Below w.heap.size w w' := by
  have Z1 := fun w1 => szRus 1048576 (by omega) (by omega) al cl l.length w1 hll
  have Z := fun (L : Int) l0 l1 w1 => szFramesL f a c L l0 l1 w1 hl hB
  have C := fun w1 (h : f.tags.length ≤ 1048576) (g : Hid (IntsAt w1 a f.tags)) => toFrames f a c w1 h g
  have T := fun (h : l.length ≤ 1048576) w1 g => toRus al cl l w1 h g
  have S := fun (hL : l.length ≤ 1048576) g b w1 (h : f.tags.length ≤ 1048576) (gl : Hid (RusAt w1 (some ⟨g, 0, none⟩) l)) (gg : Hid (IntsAt w1 (some ⟨b, 0, none⟩) f.tags)) => specClassOf (some ⟨g, 0, none⟩) l.length l f (some ⟨b, 0, none⟩) f.tags.length w1 hL h gl gg
  have I := fun (hL : l.length ≤ 1048576) g b w1 (h : f.tags.length ≤ 1048576) (gl : Hid (RusAt w1 (some ⟨g, 0, none⟩) l)) (gg : Hid (IntsAt w1 (some ⟨b, 0, none⟩) f.tags)) => implClassOf (some ⟨g, 0, none⟩) l.length l f (some ⟨b, 0, none⟩) f.tags.length w1 hL h (by simp) gl gg
  have E1 := fun (hL : l.length ≤ 1048576) g1 g2 w h1 h2 => eqRus (some ⟨g1, 0, none⟩) (some ⟨g2, 0, none⟩) l.length l.length l w hL h1 h2
  have E := fun b1 b2 w1 (h : f.tags.length ≤ 1048576) (g1 : Hid (IntsAt w1 (some ⟨b1, 0, none⟩) f.tags)) (g2 : Hid (IntsAt w1 (some ⟨b2, 0, none⟩) f.tags)) => eqFrames f (some ⟨b1, 0, none⟩) (some ⟨b2, 0, none⟩) f.tags.length f.tags.length w1 h g1 g2
  have at1 : Hid (∀ (b : Nat) (W : World) (g : Nat), RuRow b W (.slice (some ⟨g, 0, none⟩) l.length l.length) l → RusAt W (some ⟨g, 0, none⟩) l) := fun b W g h => h.at
  generalize classV l f = R at S I
  obtain ⟨f0, g1, ft, fs, fd, fp, sp, dp, mk, sm, fb⟩ := f
  simp only [Fr.val] at Z C S I E hl hB hc ⊢
  obtain ⟨nf, hnf⟩ : ∃ n, ft.length = n := ⟨_, rfl⟩
  simp only [hnf] at Z C S I E hl ⊢
  obtain ⟨len, hlen'⟩ : ∃ n, l.length = n := ⟨_, rfl⟩
  simp only [hlen'] at Z1 T S I E1 at1 hll ⊢
  clear hnf hlen'
  obtain ⟨B, hBd⟩ : ∃ B, B = w.heap.size := ⟨_, rfl⟩
  obtain ⟨W, hW⟩ : ∃ W, W = w.alloc (.cells #[.int .i64 f0, .int .i64 g1, .slice a nf c, .int .i64 fs, .int .i64 fd, .int .i64 fp, .int .i64 sp, .int .i64 dp, .int .i64 mk, .int .i64 sm, .string fb] 33) := ⟨_, rfl⟩
  have X0 : Hid (CfS w B #[.int .i64 f0, .int .i64 g1, .slice a nf c, .int .i64 fs, .int .i64 fd, .int .i64 fp, .int .i64 sp, .int .i64 dp, .int .i64 mk, .int .i64 sm, .string fb] a ft al l W) := by
    show CfS w B #[.int .i64 f0, .int .i64 g1, .slice a nf c, .int .i64 fs, .int .i64 fd, .int .i64 fp, .int .i64 sp, .int .i64 dp, .int .i64 mk, .int .i64 sm, .string fb] a ft al l W
    rw [hW, hBd]
    exact ⟨(Below.refl _ w).alloc (Nat.le_refl _) _, Boxed.new _ _ _, hc.out.alloc _, hr.out.alloc _⟩
  have Z1' : Hid _ := Z1
  have Z' : Hid _ := Z
  have C' : Hid _ := C
  have E' : Hid _ := E
  clear Z1 Z C E hc hr
  go_enter Try.func5, Try.ntmps5
  go_wp2_with fail
  rw [← hW, ← hBd]
  have HB : Hid (B = w.heap.size) := hBd
  clear hBd hW
  refine (Z1'.out _).mono ?_
  by_cases hbig : (1048576 : Int) - len < 0
  · rw [if_pos hbig]
    rintro e w1 ⟨rfl, hw⟩
    have hw := hw.symm
    subst hw
    go_wp2
    go_ret
    exact ⟨rfl, X0.out.bel⟩
  rw [if_neg hbig]
  rintro e w1 ⟨rfl, hw⟩
  have hw := hw.symm
  subst hw
  have hL : len ≤ 1048576 := by omega
  have T' : Hid _ := T hL
  have S' : Hid _ := S hL
  have I' : Hid _ := I hL
  have E1' : Hid _ := E1 hL
  clear T S I E1
  have y_W0 : W.cell? ⟨B, 0, none⟩ = some (.int .i64 f0) := X0.out.fb.cell 0 rfl
  have y_W1 : W.cell? ⟨B, 1, none⟩ = some (.int .i64 g1) := X0.out.fb.cell 1 rfl
  have y_W2 : W.cell? ⟨B, 2, none⟩ = some (.slice a nf c) := X0.out.fb.cell 2 rfl
  have y_W3 : W.cell? ⟨B, 3, none⟩ = some (.int .i64 fs) := X0.out.fb.cell 3 rfl
  have y_W4 : W.cell? ⟨B, 4, none⟩ = some (.int .i64 fd) := X0.out.fb.cell 4 rfl
  have y_W5 : W.cell? ⟨B, 5, none⟩ = some (.int .i64 fp) := X0.out.fb.cell 5 rfl
  have y_W6 : W.cell? ⟨B, 6, none⟩ = some (.int .i64 sp) := X0.out.fb.cell 6 rfl
  have y_W7 : W.cell? ⟨B, 7, none⟩ = some (.int .i64 dp) := X0.out.fb.cell 7 rfl
  have y_W8 : W.cell? ⟨B, 8, none⟩ = some (.int .i64 mk) := X0.out.fb.cell 8 rfl
  have y_W9 : W.cell? ⟨B, 9, none⟩ = some (.int .i64 sm) := X0.out.fb.cell 9 rfl
  have y_W10 : W.cell? ⟨B, 10, none⟩ = some (.string fb) := X0.out.fb.cell 10 rfl
  go_wp2_with fail
  refine (Z'.out _ (by omega) (by omega) _).mono ?_
  rintro e w2 ⟨n, rfl, hn, q⟩
  have X2 : Hid (CfS w B #[.int .i64 f0, .int .i64 g1, .slice a nf c, .int .i64 fs, .int .i64 fd, .int .i64 fp, .int .i64 sp, .int .i64 dp, .int .i64 mk, .int .i64 sm, .string fb] a ft al l w2) := X0.out.below q
  clear q X0 y_W0 y_W1 y_W2 y_W3 y_W4 y_W5 y_W6 y_W7 y_W8 y_W9 y_W10
  by_cases hneg : n < 0
  · go_wp2
    go_ret
    exact ⟨rfl, X2.out.bel⟩
  have hlen := (hn (by omega)).1
  clear hn
  go_wp2_with fail
  go_cut [6] (fun s6 wc => Hid (s6 = .int .i64 R ∧ CfS w B #[.int .i64 f0, .int .i64 g1, .slice a nf c, .int .i64 fs, .int .i64 fd, .int .i64 fp, .int .i64 sp, .int .i64 dp, .int .i64 mk, .int .i64 sm, .string fb] a ft al l wc))
  case first =>
    have y_w20 : w2.cell? ⟨B, 0, none⟩ = some (.int .i64 f0) := X2.out.fb.cell 0 rfl
    have y_w21 : w2.cell? ⟨B, 1, none⟩ = some (.int .i64 g1) := X2.out.fb.cell 1 rfl
    have y_w22 : w2.cell? ⟨B, 2, none⟩ = some (.slice a nf c) := X2.out.fb.cell 2 rfl
    have y_w23 : w2.cell? ⟨B, 3, none⟩ = some (.int .i64 fs) := X2.out.fb.cell 3 rfl
    have y_w24 : w2.cell? ⟨B, 4, none⟩ = some (.int .i64 fd) := X2.out.fb.cell 4 rfl
    have y_w25 : w2.cell? ⟨B, 5, none⟩ = some (.int .i64 fp) := X2.out.fb.cell 5 rfl
    have y_w26 : w2.cell? ⟨B, 6, none⟩ = some (.int .i64 sp) := X2.out.fb.cell 6 rfl
    have y_w27 : w2.cell? ⟨B, 7, none⟩ = some (.int .i64 dp) := X2.out.fb.cell 7 rfl
    have y_w28 : w2.cell? ⟨B, 8, none⟩ = some (.int .i64 mk) := X2.out.fb.cell 8 rfl
    have y_w29 : w2.cell? ⟨B, 9, none⟩ = some (.int .i64 sm) := X2.out.fb.cell 9 rfl
    have y_w210 : w2.cell? ⟨B, 10, none⟩ = some (.string fb) := X2.out.fb.cell 10 rfl
    go_region_with (first | (go_at_call 11; refine (T'.out _ ?_).mono ?_; (first | exact XF.out.1.rus | exact X2.out.drew.rus); rintro e wR ⟨gR, rfl, rR, q⟩; first | (have XR : Hid (CfS w B #[.int .i64 f0, .int .i64 g1, .slice a nf c, .int .i64 fs, .int .i64 fd, .int .i64 fp, .int .i64 sp, .int .i64 dp, .int .i64 mk, .int .i64 sm, .string fb] a ft al l wR ∧ RusAt wR (some ⟨gR, 0, none⟩) l ∧ IntsAt wR (some ⟨bF, 0, none⟩) ft) := ⟨XF.out.1.below q, at1.out _ _ _ rR, ints_bel XF.out.2 q⟩; clear q rR) | (have XR : Hid (CfS w B #[.int .i64 f0, .int .i64 g1, .slice a nf c, .int .i64 fs, .int .i64 fd, .int .i64 fp, .int .i64 sp, .int .i64 dp, .int .i64 mk, .int .i64 sm, .string fb] a ft al l wR ∧ RusAt wR (some ⟨gR, 0, none⟩) l) := ⟨X2.out.drew.below q, at1.out _ _ _ rR⟩; have y_wR0 : wR.cell? ⟨B, 0, none⟩ = some (.int .i64 f0) := XR.out.1.fb.cell 0 rfl; have y_wR1 : wR.cell? ⟨B, 1, none⟩ = some (.int .i64 g1) := XR.out.1.fb.cell 1 rfl; have y_wR2 : wR.cell? ⟨B, 2, none⟩ = some (.slice a nf c) := XR.out.1.fb.cell 2 rfl; have y_wR3 : wR.cell? ⟨B, 3, none⟩ = some (.int .i64 fs) := XR.out.1.fb.cell 3 rfl; have y_wR4 : wR.cell? ⟨B, 4, none⟩ = some (.int .i64 fd) := XR.out.1.fb.cell 4 rfl; have y_wR5 : wR.cell? ⟨B, 5, none⟩ = some (.int .i64 fp) := XR.out.1.fb.cell 5 rfl; have y_wR6 : wR.cell? ⟨B, 6, none⟩ = some (.int .i64 sp) := XR.out.1.fb.cell 6 rfl; have y_wR7 : wR.cell? ⟨B, 7, none⟩ = some (.int .i64 dp) := XR.out.1.fb.cell 7 rfl; have y_wR8 : wR.cell? ⟨B, 8, none⟩ = some (.int .i64 mk) := XR.out.1.fb.cell 8 rfl; have y_wR9 : wR.cell? ⟨B, 9, none⟩ = some (.int .i64 sm) := XR.out.1.fb.cell 9 rfl; have y_wR10 : wR.cell? ⟨B, 10, none⟩ = some (.string fb) := XR.out.1.fb.cell 10 rfl; clear q rR)) | (go_at_call 17; refine (C'.out _ hlen ?_).mono ?_; (first | exact XR.out.1.ints | exact X2.out.drew.ints); rintro e wF ⟨bF, rfl, iF, q⟩; first | (have XF : Hid (CfS w B #[.int .i64 f0, .int .i64 g1, .slice a nf c, .int .i64 fs, .int .i64 fd, .int .i64 fp, .int .i64 sp, .int .i64 dp, .int .i64 mk, .int .i64 sm, .string fb] a ft al l wF ∧ RusAt wF (some ⟨gR, 0, none⟩) l ∧ IntsAt wF (some ⟨bF, 0, none⟩) ft) := ⟨XR.out.1.below q, XR.out.2.below q, iF⟩; clear q iF) | (have XF : Hid (CfS w B #[.int .i64 f0, .int .i64 g1, .slice a nf c, .int .i64 fs, .int .i64 fd, .int .i64 fp, .int .i64 sp, .int .i64 dp, .int .i64 mk, .int .i64 sm, .string fb] a ft al l wF ∧ IntsAt wF (some ⟨bF, 0, none⟩) ft) := ⟨X2.out.drew.below q, iF⟩; clear q iF)) | (go_at_call 20; refine (S'.out _ _ _ hlen ?_ ?_).mono ?_; (first | exact XF.out.2.1 | exact XR.out.2.1); (first | exact XF.out.2.2 | exact XR.out.2.2); rintro e w5 ⟨rfl, q⟩; first | (have X5 : Hid (CfS w B #[.int .i64 f0, .int .i64 g1, .slice a nf c, .int .i64 fs, .int .i64 fd, .int .i64 fp, .int .i64 sp, .int .i64 dp, .int .i64 mk, .int .i64 sm, .string fb] a ft al l w5) := XF.out.1.below q; clear q) | (have X5 : Hid (CfS w B #[.int .i64 f0, .int .i64 g1, .slice a nf c, .int .i64 fs, .int .i64 fd, .int .i64 fp, .int .i64 sp, .int .i64 dp, .int .i64 mk, .int .i64 sm, .string fb] a ft al l w5) := XR.out.1.below q; clear q)))
    all_goals (go_wp2_with fail; go_meet; exact ⟨rfl, X5.out⟩)
  case rest =>
  obtain ⟨rfl, hx5⟩ := hcut.out
  obtain ⟨w5, rfl⟩ : ∃ w5, w5 = wc := ⟨_, rfl⟩
  have X5 : Hid (CfS w B #[.int .i64 f0, .int .i64 g1, .slice a nf c, .int .i64 fs, .int .i64 fd, .int .i64 fp, .int .i64 sp, .int .i64 dp, .int .i64 mk, .int .i64 sm, .string fb] a ft al l w5) := hx5
  clear hcut hx5 X2
  go_wp2_with fail
  refine (T'.out _ X5.out.rus).mono ?_
  rintro e w6 ⟨g6, rfl, r6, q⟩
  have X6 : Hid (CfS w B #[.int .i64 f0, .int .i64 g1, .slice a nf c, .int .i64 fs, .int .i64 fd, .int .i64 fp, .int .i64 sp, .int .i64 dp, .int .i64 mk, .int .i64 sm, .string fb] a ft al l w6 ∧ RusAt w6 (some ⟨g6, 0, none⟩) l) := ⟨X5.out.below q, at1.out _ _ _ r6⟩
  clear q r6 X5
  have y_w60 : w6.cell? ⟨B, 0, none⟩ = some (.int .i64 f0) := X6.out.1.fb.cell 0 rfl
  have y_w61 : w6.cell? ⟨B, 1, none⟩ = some (.int .i64 g1) := X6.out.1.fb.cell 1 rfl
  have y_w62 : w6.cell? ⟨B, 2, none⟩ = some (.slice a nf c) := X6.out.1.fb.cell 2 rfl
  have y_w63 : w6.cell? ⟨B, 3, none⟩ = some (.int .i64 fs) := X6.out.1.fb.cell 3 rfl
  have y_w64 : w6.cell? ⟨B, 4, none⟩ = some (.int .i64 fd) := X6.out.1.fb.cell 4 rfl
  have y_w65 : w6.cell? ⟨B, 5, none⟩ = some (.int .i64 fp) := X6.out.1.fb.cell 5 rfl
  have y_w66 : w6.cell? ⟨B, 6, none⟩ = some (.int .i64 sp) := X6.out.1.fb.cell 6 rfl
  have y_w67 : w6.cell? ⟨B, 7, none⟩ = some (.int .i64 dp) := X6.out.1.fb.cell 7 rfl
  have y_w68 : w6.cell? ⟨B, 8, none⟩ = some (.int .i64 mk) := X6.out.1.fb.cell 8 rfl
  have y_w69 : w6.cell? ⟨B, 9, none⟩ = some (.int .i64 sm) := X6.out.1.fb.cell 9 rfl
  have y_w610 : w6.cell? ⟨B, 10, none⟩ = some (.string fb) := X6.out.1.fb.cell 10 rfl
  go_wp2_with fail
  refine (C'.out w6 hlen X6.out.1.ints).mono ?_
  rintro e w7 ⟨b6, rfl, i6, q⟩
  have X7 : Hid (CfS w B #[.int .i64 f0, .int .i64 g1, .slice a nf c, .int .i64 fs, .int .i64 fd, .int .i64 fp, .int .i64 sp, .int .i64 dp, .int .i64 mk, .int .i64 sm, .string fb] a ft al l w7 ∧ RusAt w7 (some ⟨g6, 0, none⟩) l ∧ IntsAt w7 (some ⟨b6, 0, none⟩) ft) := ⟨X6.out.1.below q, X6.out.2.below q, i6⟩
  clear q i6 X6 y_w60 y_w61 y_w62 y_w63 y_w64 y_w65 y_w66 y_w67 y_w68 y_w69 y_w610
  go_wp2_with fail
  have X8 : Hid (CfS w B #[.int .i64 f0, .int .i64 g1, .slice a nf c, .int .i64 fs, .int .i64 fd, .int .i64 fp, .int .i64 sp, .int .i64 dp, .int .i64 mk, .int .i64 sm, .string fb] a ft al l (w7.alloc (.cells #[.int .i64 f0, .int .i64 g1, .slice (some ⟨b6, 0, none⟩) nf nf, .int .i64 fs, .int .i64 fd, .int .i64 fp, .int .i64 sp, .int .i64 dp, .int .i64 mk, .int .i64 sm, .string fb] 38)) ∧ RusAt (w7.alloc (.cells #[.int .i64 f0, .int .i64 g1, .slice (some ⟨b6, 0, none⟩) nf nf, .int .i64 fs, .int .i64 fd, .int .i64 fp, .int .i64 sp, .int .i64 dp, .int .i64 mk, .int .i64 sm, .string fb] 38)) (some ⟨g6, 0, none⟩) l ∧ IntsAt (w7.alloc (.cells #[.int .i64 f0, .int .i64 g1, .slice (some ⟨b6, 0, none⟩) nf nf, .int .i64 fs, .int .i64 fd, .int .i64 fp, .int .i64 sp, .int .i64 dp, .int .i64 mk, .int .i64 sm, .string fb] 38)) (some ⟨b6, 0, none⟩) ft ∧ Boxed (w7.alloc (.cells #[.int .i64 f0, .int .i64 g1, .slice (some ⟨b6, 0, none⟩) nf nf, .int .i64 fs, .int .i64 fd, .int .i64 fp, .int .i64 sp, .int .i64 dp, .int .i64 mk, .int .i64 sm, .string fb] 38)) w7.heap.size #[.int .i64 f0, .int .i64 g1, .slice (some ⟨b6, 0, none⟩) nf nf, .int .i64 fs, .int .i64 fd, .int .i64 fp, .int .i64 sp, .int .i64 dp, .int .i64 mk, .int .i64 sm, .string fb] 38) := ⟨X7.out.1.below ((Below.refl _ _).alloc (Nat.le_refl _) _), X7.out.2.1.alloc _, X7.out.2.2.alloc _, Boxed.new _ _ _⟩
  obtain ⟨XB, hXB⟩ : ∃ XB, w7.heap.size = XB := ⟨_, rfl⟩
  rw [hXB] at X8 ⊢
  generalize w7.alloc (.cells #[.int .i64 f0, .int .i64 g1, .slice (some ⟨b6, 0, none⟩) nf nf, .int .i64 fs, .int .i64 fd, .int .i64 fp, .int .i64 sp, .int .i64 dp, .int .i64 mk, .int .i64 sm, .string fb] 38) = w8 at X8 ⊢
  clear X7 hXB
  refine (I'.out _ _ _ hlen X8.out.2.1 X8.out.2.2.1).mono ?_
  rintro e w9 ⟨rfl, q⟩
  have X9 : Hid (CfS w B #[.int .i64 f0, .int .i64 g1, .slice a nf c, .int .i64 fs, .int .i64 fd, .int .i64 fp, .int .i64 sp, .int .i64 dp, .int .i64 mk, .int .i64 sm, .string fb] a ft al l w9 ∧ RusAt w9 (some ⟨g6, 0, none⟩) l ∧ IntsAt w9 (some ⟨b6, 0, none⟩) ft ∧ Boxed w9 XB #[.int .i64 f0, .int .i64 g1, .slice (some ⟨b6, 0, none⟩) nf nf, .int .i64 fs, .int .i64 fd, .int .i64 fp, .int .i64 sp, .int .i64 dp, .int .i64 mk, .int .i64 sm, .string fb] 38) := ⟨X8.out.1.below q, X8.out.2.1.below q, ints_bel X8.out.2.2.1 q, X8.out.2.2.2.below X8.out.2.2.2.under q⟩
  clear q X8
  go_wp2_with fail
  refine (T'.out _ X9.out.1.rus).mono ?_
  rintro e w10 ⟨g10, rfl, r10, q⟩
  have X10 : Hid (CfS w B #[.int .i64 f0, .int .i64 g1, .slice a nf c, .int .i64 fs, .int .i64 fd, .int .i64 fp, .int .i64 sp, .int .i64 dp, .int .i64 mk, .int .i64 sm, .string fb] a ft al l w10 ∧ RusAt w10 (some ⟨g6, 0, none⟩) l ∧ RusAt w10 (some ⟨g10, 0, none⟩) l ∧ IntsAt w10 (some ⟨b6, 0, none⟩) ft ∧ Boxed w10 XB #[.int .i64 f0, .int .i64 g1, .slice (some ⟨b6, 0, none⟩) nf nf, .int .i64 fs, .int .i64 fd, .int .i64 fp, .int .i64 sp, .int .i64 dp, .int .i64 mk, .int .i64 sm, .string fb] 38) := ⟨X9.out.1.below q, X9.out.2.1.below q, at1.out _ _ _ r10, ints_bel X9.out.2.2.1 q, X9.out.2.2.2.below X9.out.2.2.2.under q⟩
  clear q r10 X9
  go_wp2_with fail
  refine (E1'.out _ _ _ X10.out.2.1 X10.out.2.2.1).mono ?_
  rintro e w11 ⟨rfl, q⟩
  have X11 : Hid (CfS w B #[.int .i64 f0, .int .i64 g1, .slice a nf c, .int .i64 fs, .int .i64 fd, .int .i64 fp, .int .i64 sp, .int .i64 dp, .int .i64 mk, .int .i64 sm, .string fb] a ft al l w11 ∧ IntsAt w11 (some ⟨b6, 0, none⟩) ft ∧ Boxed w11 XB #[.int .i64 f0, .int .i64 g1, .slice (some ⟨b6, 0, none⟩) nf nf, .int .i64 fs, .int .i64 fd, .int .i64 fp, .int .i64 sp, .int .i64 dp, .int .i64 mk, .int .i64 sm, .string fb] 38) := ⟨X10.out.1.below q, ints_bel X10.out.2.2.2.1 q, X10.out.2.2.2.2.below X10.out.2.2.2.2.under q⟩
  clear q X10
  have y_w110 : w11.cell? ⟨B, 0, none⟩ = some (.int .i64 f0) := X11.out.1.fb.cell 0 rfl
  have y_w111 : w11.cell? ⟨B, 1, none⟩ = some (.int .i64 g1) := X11.out.1.fb.cell 1 rfl
  have y_w112 : w11.cell? ⟨B, 2, none⟩ = some (.slice a nf c) := X11.out.1.fb.cell 2 rfl
  have y_w113 : w11.cell? ⟨B, 3, none⟩ = some (.int .i64 fs) := X11.out.1.fb.cell 3 rfl
  have y_w114 : w11.cell? ⟨B, 4, none⟩ = some (.int .i64 fd) := X11.out.1.fb.cell 4 rfl
  have y_w115 : w11.cell? ⟨B, 5, none⟩ = some (.int .i64 fp) := X11.out.1.fb.cell 5 rfl
  have y_w116 : w11.cell? ⟨B, 6, none⟩ = some (.int .i64 sp) := X11.out.1.fb.cell 6 rfl
  have y_w117 : w11.cell? ⟨B, 7, none⟩ = some (.int .i64 dp) := X11.out.1.fb.cell 7 rfl
  have y_w118 : w11.cell? ⟨B, 8, none⟩ = some (.int .i64 mk) := X11.out.1.fb.cell 8 rfl
  have y_w119 : w11.cell? ⟨B, 9, none⟩ = some (.int .i64 sm) := X11.out.1.fb.cell 9 rfl
  have y_w1110 : w11.cell? ⟨B, 10, none⟩ = some (.string fb) := X11.out.1.fb.cell 10 rfl
  have z_w110 : w11.cell? ⟨XB, 0, none⟩ = some (.int .i64 f0) := X11.out.2.2.cell 0 rfl
  have z_w111 : w11.cell? ⟨XB, 1, none⟩ = some (.int .i64 g1) := X11.out.2.2.cell 1 rfl
  have z_w112 : w11.cell? ⟨XB, 2, none⟩ = some (.slice (some ⟨b6, 0, none⟩) nf nf) := X11.out.2.2.cell 2 rfl
  have z_w113 : w11.cell? ⟨XB, 3, none⟩ = some (.int .i64 fs) := X11.out.2.2.cell 3 rfl
  have z_w114 : w11.cell? ⟨XB, 4, none⟩ = some (.int .i64 fd) := X11.out.2.2.cell 4 rfl
  have z_w115 : w11.cell? ⟨XB, 5, none⟩ = some (.int .i64 fp) := X11.out.2.2.cell 5 rfl
  have z_w116 : w11.cell? ⟨XB, 6, none⟩ = some (.int .i64 sp) := X11.out.2.2.cell 6 rfl
  have z_w117 : w11.cell? ⟨XB, 7, none⟩ = some (.int .i64 dp) := X11.out.2.2.cell 7 rfl
  have z_w118 : w11.cell? ⟨XB, 8, none⟩ = some (.int .i64 mk) := X11.out.2.2.cell 8 rfl
  have z_w119 : w11.cell? ⟨XB, 9, none⟩ = some (.int .i64 sm) := X11.out.2.2.cell 9 rfl
  have z_w1110 : w11.cell? ⟨XB, 10, none⟩ = some (.string fb) := X11.out.2.2.cell 10 rfl
  go_wp2_with fail
  go_region_with (first | (go_at_call 17; refine (C'.out _ hlen ?_).mono ?_; exact X11.out.1.drew.ints; rintro e wF ⟨bF, rfl, iF, q⟩; have XF : Hid (Below w.heap.size w wF ∧ IntsAt wF (some ⟨bF, 0, none⟩) ft ∧ IntsAt wF (some ⟨b6, 0, none⟩) ft ∧ Boxed wF XB #[.int .i64 f0, .int .i64 g1, .slice (some ⟨b6, 0, none⟩) nf nf, .int .i64 fs, .int .i64 fd, .int .i64 fp, .int .i64 sp, .int .i64 dp, .int .i64 mk, .int .i64 sm, .string fb] 38) := ⟨(X11.out.1.drew.below q).bel, iF, ints_bel X11.out.2.1 ((Below.refl _ _).drew.trans q), X11.out.2.2.below X11.out.2.2.under ((Below.refl _ _).drew.trans q)⟩; have z_wF0 : wF.cell? ⟨XB, 0, none⟩ = some (.int .i64 f0) := XF.out.2.2.2.cell 0 rfl; have z_wF1 : wF.cell? ⟨XB, 1, none⟩ = some (.int .i64 g1) := XF.out.2.2.2.cell 1 rfl; have z_wF2 : wF.cell? ⟨XB, 2, none⟩ = some (.slice (some ⟨b6, 0, none⟩) nf nf) := XF.out.2.2.2.cell 2 rfl; have z_wF3 : wF.cell? ⟨XB, 3, none⟩ = some (.int .i64 fs) := XF.out.2.2.2.cell 3 rfl; have z_wF4 : wF.cell? ⟨XB, 4, none⟩ = some (.int .i64 fd) := XF.out.2.2.2.cell 4 rfl; have z_wF5 : wF.cell? ⟨XB, 5, none⟩ = some (.int .i64 fp) := XF.out.2.2.2.cell 5 rfl; have z_wF6 : wF.cell? ⟨XB, 6, none⟩ = some (.int .i64 sp) := XF.out.2.2.2.cell 6 rfl; have z_wF7 : wF.cell? ⟨XB, 7, none⟩ = some (.int .i64 dp) := XF.out.2.2.2.cell 7 rfl; have z_wF8 : wF.cell? ⟨XB, 8, none⟩ = some (.int .i64 mk) := XF.out.2.2.2.cell 8 rfl; have z_wF9 : wF.cell? ⟨XB, 9, none⟩ = some (.int .i64 sm) := XF.out.2.2.2.cell 9 rfl; have z_wF10 : wF.cell? ⟨XB, 10, none⟩ = some (.string fb) := XF.out.2.2.2.cell 10 rfl; clear q iF) | (go_at_call 19; refine (E'.out _ _ _ hlen ?_ ?_).mono ?_; exact XF.out.2.2.1; exact XF.out.2.1; rintro e wE ⟨rfl, q⟩; have K9 : Hid (Below w.heap.size w wE) := XF.out.1.trans (q.mono XF.out.1.size); clear q))
  all_goals (go_wp2; go_ret; exact ⟨rfl, K9.out⟩)
end Go.Proofs.Ytcafobokdfglfaa
