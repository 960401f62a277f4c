/-
  The walk of the exact law of Matches. By the verifier, by program.
-/
import Derived.Test.YtcafobokdfglfaaRuMat
import Derived.Test.YtcafobokdfglfaaRuTo
import Derived.Test.YtcafobokdfglfaaFrTo
import Derived.Deep.RegionWith
import Derived.Deep.DeepCutAuto
namespace Go.Proofs.Ytcafobokdfglfaa
open Go.RowKit

/-- A rule's and a frame's blocks, and the frame's tags. -/
structure RfS (w : World) (B : Nat) (rc fc : Array Value) (a : Option Addr) (ft : List Int) (W : World) : Prop where
  bel : Below w.heap.size w W
  rb : Boxed W B rc 30
  fb : Boxed W (B + 1) fc 33
  ints : IntsAt W a ft
theorem RfS.below {w : World} {B : Nat} {rc fc : Array Value} {a : Option Addr} {ft : List Int} {W W' : World} (h : RfS w B rc fc a ft W) (q : Below W.heap.size W W') : RfS w B rc fc a ft W' :=
  ⟨h.bel.trans (q.mono h.bel.size), h.rb.below h.rb.under q, h.fb.below h.fb.under q, ints_bel h.ints q⟩
theorem RfS.drew {w : World} {B : Nat} {rc fc : Array Value} {a : Option Addr} {ft : List Int} {W : World} (h : RfS w B rc fc a ft W) : RfS w B rc fc a ft W.drew := h.below (Below.refl _ _).drew

set_option maxHeartbeats 6400000 in
set_option maxRecDepth 100000 in
theorem fnExactMatches_walk (r : Ru) (f : Fr) (a : Option Addr) (c : Nat) (w : World) (hl : (f.tags.length : Int) ≤ 9223372036854775807) (hB : (f.body.size : Int) ≤ 9223372036854775807) (hc : Hid (IntsAt w a f.tags)) :
    Calls Try.prog 4 #[r.val, f.val a c] w fun e w' => e = .returned (.bool true) ∧ Below w.heap.size w w' := by
  have Z := fun w1 => szFrames f a c w1 hl hB
  have C := fun w1 (h : f.tags.length ≤ 1048576) (g : Hid (IntsAt w1 a f.tags)) => toFrames f a c w1 h g
  have T := fun w1 => toRuB r w1
  have S := fun b w1 (h : f.tags.length ≤ 1048576) (g : Hid (IntsAt w1 (some ⟨b, 0, none⟩) f.tags)) => specMatches r f (some ⟨b, 0, none⟩) f.tags.length w1 h g
  have I := fun b w1 (h : f.tags.length ≤ 1048576) (g : Hid (IntsAt w1 (some ⟨b, 0, none⟩) f.tags)) => implMatches r f (some ⟨b, 0, none⟩) f.tags.length w1 h g
  have E := fun b1 b2 w1 (h : f.tags.length ≤ 1048576) (g1 : Hid (IntsAt w1 (some ⟨b1, 0, none⟩) f.tags)) (g2 : Hid (IntsAt w1 (some ⟨b2, 0, none⟩) f.tags)) => eqFrames f (some ⟨b1, 0, none⟩) (some ⟨b2, 0, none⟩) f.tags.length f.tags.length w1 h g1 g2
  generalize matchV r f = R at S I
  obtain ⟨i, p, sn, sb, dn, db, pr, lo, hi, cl⟩ := r
  obtain ⟨f0, g1, ft, fs, fd, fp, sp, dp, mk, sm, fb⟩ := f
  simp only [Ru.val, Fr.val] at Z C T S I E hl hB hc ⊢
  obtain ⟨nf, hnf⟩ : ∃ n, ft.length = n := ⟨_, rfl⟩
  simp only [hnf] at Z C S I E hl ⊢
  clear hnf
  obtain ⟨B, hBd⟩ : ∃ B, B = w.heap.size := ⟨_, rfl⟩
  obtain ⟨W, hW⟩ : ∃ W, W = (w.alloc (.cells #[.int .i64 i, .int .i64 p, .int .i64 sn, .int .i64 sb, .int .i64 dn, .int .i64 db, .int .i64 pr, .int .i64 lo, .int .i64 hi, .int .i64 cl] 30)).alloc (.cells #[.int .i64 f0, .int .i64 g1, .slice a nf c, .int .i64 fs, .int .i64 fd, .int .i64 fp, .int .i64 sp, .int .i64 dp, .int .i64 mk, .int .i64 sm, .string fb] 33) := ⟨_, rfl⟩
  have X0 : Hid (RfS w B #[.int .i64 i, .int .i64 p, .int .i64 sn, .int .i64 sb, .int .i64 dn, .int .i64 db, .int .i64 pr, .int .i64 lo, .int .i64 hi, .int .i64 cl] #[.int .i64 f0, .int .i64 g1, .slice a nf c, .int .i64 fs, .int .i64 fd, .int .i64 fp, .int .i64 sp, .int .i64 dp, .int .i64 mk, .int .i64 sm, .string fb] a ft W) := by
    show RfS w B #[.int .i64 i, .int .i64 p, .int .i64 sn, .int .i64 sb, .int .i64 dn, .int .i64 db, .int .i64 pr, .int .i64 lo, .int .i64 hi, .int .i64 cl] #[.int .i64 f0, .int .i64 g1, .slice a nf c, .int .i64 fs, .int .i64 fd, .int .i64 fp, .int .i64 sp, .int .i64 dp, .int .i64 mk, .int .i64 sm, .string fb] a ft W
    rw [hW, hBd]
    exact ⟨((Below.refl _ w).alloc (Nat.le_refl _) _).alloc (by simp) _, (Boxed.new _ _ _).more _, by have := Boxed.new (w.alloc (.cells #[.int .i64 i, .int .i64 p, .int .i64 sn, .int .i64 sb, .int .i64 dn, .int .i64 db, .int .i64 pr, .int .i64 lo, .int .i64 hi, .int .i64 cl] 30)) #[.int .i64 f0, .int .i64 g1, .slice a nf c, .int .i64 fs, .int .i64 fd, .int .i64 fp, .int .i64 sp, .int .i64 dp, .int .i64 mk, .int .i64 sm, .string fb] 33; simpa using this, (hc.out.alloc _).alloc _⟩
  have Z' : Hid _ := Z
  have C' : Hid _ := C
  have T' : Hid _ := T
  have S' : Hid _ := S
  have I' : Hid _ := I
  have E' : Hid _ := E
  clear Z C T S I E hc
  go_enter Try.func4, Try.ntmps4
  go_wp2_with fail
  rw [← hW, ← hBd]
  have HB : Hid (B = w.heap.size) := hBd
  clear hBd hW
  refine (Z'.out _).mono ?_
  rintro e w2 ⟨n, rfl, hn, q⟩
  have X2 : Hid (RfS w B #[.int .i64 i, .int .i64 p, .int .i64 sn, .int .i64 sb, .int .i64 dn, .int .i64 db, .int .i64 pr, .int .i64 lo, .int .i64 hi, .int .i64 cl] #[.int .i64 f0, .int .i64 g1, .slice a nf c, .int .i64 fs, .int .i64 fd, .int .i64 fp, .int .i64 sp, .int .i64 dp, .int .i64 mk, .int .i64 sm, .string fb] a ft w2) := X0.out.below q
  clear q X0
  by_cases hneg : n < 0
  · go_wp2
    go_ret
    exact ⟨rfl, X2.out.bel⟩
  have hlen := (hn (by omega)).1
  clear hn
  go_wp2_with fail
  go_cut [6] (fun s6 wc => Hid (s6 = .bool R ∧ RfS w B #[.int .i64 i, .int .i64 p, .int .i64 sn, .int .i64 sb, .int .i64 dn, .int .i64 db, .int .i64 pr, .int .i64 lo, .int .i64 hi, .int .i64 cl] #[.int .i64 f0, .int .i64 g1, .slice a nf c, .int .i64 fs, .int .i64 fd, .int .i64 fp, .int .i64 sp, .int .i64 dp, .int .i64 mk, .int .i64 sm, .string fb] a ft wc))
  case first =>
    have x_w20 : w2.cell? ⟨B, 0, none⟩ = some (.int .i64 i) := X2.out.rb.cell 0 rfl
    have x_w21 : w2.cell? ⟨B, 1, none⟩ = some (.int .i64 p) := X2.out.rb.cell 1 rfl
    have x_w22 : w2.cell? ⟨B, 2, none⟩ = some (.int .i64 sn) := X2.out.rb.cell 2 rfl
    have x_w23 : w2.cell? ⟨B, 3, none⟩ = some (.int .i64 sb) := X2.out.rb.cell 3 rfl
    have x_w24 : w2.cell? ⟨B, 4, none⟩ = some (.int .i64 dn) := X2.out.rb.cell 4 rfl
    have x_w25 : w2.cell? ⟨B, 5, none⟩ = some (.int .i64 db) := X2.out.rb.cell 5 rfl
    have x_w26 : w2.cell? ⟨B, 6, none⟩ = some (.int .i64 pr) := X2.out.rb.cell 6 rfl
    have x_w27 : w2.cell? ⟨B, 7, none⟩ = some (.int .i64 lo) := X2.out.rb.cell 7 rfl
    have x_w28 : w2.cell? ⟨B, 8, none⟩ = some (.int .i64 hi) := X2.out.rb.cell 8 rfl
    have x_w29 : w2.cell? ⟨B, 9, none⟩ = some (.int .i64 cl) := X2.out.rb.cell 9 rfl
    have y_w20 : w2.cell? ⟨B + 1, 0, none⟩ = some (.int .i64 f0) := X2.out.fb.cell 0 rfl
    have y_w21 : w2.cell? ⟨B + 1, 1, none⟩ = some (.int .i64 g1) := X2.out.fb.cell 1 rfl
    have y_w22 : w2.cell? ⟨B + 1, 2, none⟩ = some (.slice a nf c) := X2.out.fb.cell 2 rfl
    have y_w23 : w2.cell? ⟨B + 1, 3, none⟩ = some (.int .i64 fs) := X2.out.fb.cell 3 rfl
    have y_w24 : w2.cell? ⟨B + 1, 4, none⟩ = some (.int .i64 fd) := X2.out.fb.cell 4 rfl
    have y_w25 : w2.cell? ⟨B + 1, 5, none⟩ = some (.int .i64 fp) := X2.out.fb.cell 5 rfl
    have y_w26 : w2.cell? ⟨B + 1, 6, none⟩ = some (.int .i64 sp) := X2.out.fb.cell 6 rfl
    have y_w27 : w2.cell? ⟨B + 1, 7, none⟩ = some (.int .i64 dp) := X2.out.fb.cell 7 rfl
    have y_w28 : w2.cell? ⟨B + 1, 8, none⟩ = some (.int .i64 mk) := X2.out.fb.cell 8 rfl
    have y_w29 : w2.cell? ⟨B + 1, 9, none⟩ = some (.int .i64 sm) := X2.out.fb.cell 9 rfl
    have y_w210 : w2.cell? ⟨B + 1, 10, none⟩ = some (.string fb) := X2.out.fb.cell 10 rfl
    go_region_with (first | (go_at_call 16; refine (T'.out _).mono ?_; rintro e wR ⟨rfl, q⟩; first | (have XR : Hid (RfS w B #[.int .i64 i, .int .i64 p, .int .i64 sn, .int .i64 sb, .int .i64 dn, .int .i64 db, .int .i64 pr, .int .i64 lo, .int .i64 hi, .int .i64 cl] #[.int .i64 f0, .int .i64 g1, .slice a nf c, .int .i64 fs, .int .i64 fd, .int .i64 fp, .int .i64 sp, .int .i64 dp, .int .i64 mk, .int .i64 sm, .string fb] a ft wR ∧ IntsAt wR (some ⟨bF, 0, none⟩) ft) := ⟨XF.out.1.below q, XF.out.2.below q⟩; clear q) | (have XR : Hid (RfS w B #[.int .i64 i, .int .i64 p, .int .i64 sn, .int .i64 sb, .int .i64 dn, .int .i64 db, .int .i64 pr, .int .i64 lo, .int .i64 hi, .int .i64 cl] #[.int .i64 f0, .int .i64 g1, .slice a nf c, .int .i64 fs, .int .i64 fd, .int .i64 fp, .int .i64 sp, .int .i64 dp, .int .i64 mk, .int .i64 sm, .string fb] a ft wR) := X2.out.drew.below q; have y_wR0 : wR.cell? ⟨B + 1, 0, none⟩ = some (.int .i64 f0) := XR.out.fb.cell 0 rfl; have y_wR1 : wR.cell? ⟨B + 1, 1, none⟩ = some (.int .i64 g1) := XR.out.fb.cell 1 rfl; have y_wR2 : wR.cell? ⟨B + 1, 2, none⟩ = some (.slice a nf c) := XR.out.fb.cell 2 rfl; have y_wR3 : wR.cell? ⟨B + 1, 3, none⟩ = some (.int .i64 fs) := XR.out.fb.cell 3 rfl; have y_wR4 : wR.cell? ⟨B + 1, 4, none⟩ = some (.int .i64 fd) := XR.out.fb.cell 4 rfl; have y_wR5 : wR.cell? ⟨B + 1, 5, none⟩ = some (.int .i64 fp) := XR.out.fb.cell 5 rfl; have y_wR6 : wR.cell? ⟨B + 1, 6, none⟩ = some (.int .i64 sp) := XR.out.fb.cell 6 rfl; have y_wR7 : wR.cell? ⟨B + 1, 7, none⟩ = some (.int .i64 dp) := XR.out.fb.cell 7 rfl; have y_wR8 : wR.cell? ⟨B + 1, 8, none⟩ = some (.int .i64 mk) := XR.out.fb.cell 8 rfl; have y_wR9 : wR.cell? ⟨B + 1, 9, none⟩ = some (.int .i64 sm) := XR.out.fb.cell 9 rfl; have y_wR10 : wR.cell? ⟨B + 1, 10, none⟩ = some (.string fb) := XR.out.fb.cell 10 rfl; clear q)) | (go_at_call 17; refine (C'.out _ hlen ?_).mono ?_; (first | exact XR.out.ints | exact X2.out.drew.ints); rintro e wF ⟨bF, rfl, iF, q⟩; first | (have XF : Hid (RfS w B #[.int .i64 i, .int .i64 p, .int .i64 sn, .int .i64 sb, .int .i64 dn, .int .i64 db, .int .i64 pr, .int .i64 lo, .int .i64 hi, .int .i64 cl] #[.int .i64 f0, .int .i64 g1, .slice a nf c, .int .i64 fs, .int .i64 fd, .int .i64 fp, .int .i64 sp, .int .i64 dp, .int .i64 mk, .int .i64 sm, .string fb] a ft wF ∧ IntsAt wF (some ⟨bF, 0, none⟩) ft) := ⟨XR.out.below q, iF⟩; clear q iF) | (have XF : Hid (RfS w B #[.int .i64 i, .int .i64 p, .int .i64 sn, .int .i64 sb, .int .i64 dn, .int .i64 db, .int .i64 pr, .int .i64 lo, .int .i64 hi, .int .i64 cl] #[.int .i64 f0, .int .i64 g1, .slice a nf c, .int .i64 fs, .int .i64 fd, .int .i64 fp, .int .i64 sp, .int .i64 dp, .int .i64 mk, .int .i64 sm, .string fb] a ft wF ∧ IntsAt wF (some ⟨bF, 0, none⟩) ft) := ⟨X2.out.drew.below q, iF⟩; have x_wF0 : wF.cell? ⟨B, 0, none⟩ = some (.int .i64 i) := XF.out.1.rb.cell 0 rfl; have x_wF1 : wF.cell? ⟨B, 1, none⟩ = some (.int .i64 p) := XF.out.1.rb.cell 1 rfl; have x_wF2 : wF.cell? ⟨B, 2, none⟩ = some (.int .i64 sn) := XF.out.1.rb.cell 2 rfl; have x_wF3 : wF.cell? ⟨B, 3, none⟩ = some (.int .i64 sb) := XF.out.1.rb.cell 3 rfl; have x_wF4 : wF.cell? ⟨B, 4, none⟩ = some (.int .i64 dn) := XF.out.1.rb.cell 4 rfl; have x_wF5 : wF.cell? ⟨B, 5, none⟩ = some (.int .i64 db) := XF.out.1.rb.cell 5 rfl; have x_wF6 : wF.cell? ⟨B, 6, none⟩ = some (.int .i64 pr) := XF.out.1.rb.cell 6 rfl; have x_wF7 : wF.cell? ⟨B, 7, none⟩ = some (.int .i64 lo) := XF.out.1.rb.cell 7 rfl; have x_wF8 : wF.cell? ⟨B, 8, none⟩ = some (.int .i64 hi) := XF.out.1.rb.cell 8 rfl; have x_wF9 : wF.cell? ⟨B, 9, none⟩ = some (.int .i64 cl) := XF.out.1.rb.cell 9 rfl; clear q iF)) | (go_at_call 15; refine (S'.out _ _ hlen ?_).mono ?_; (first | exact XR.out.2 | exact XF.out.2); rintro e w5 ⟨rfl, q⟩; first | (have X5 : Hid (RfS w B #[.int .i64 i, .int .i64 p, .int .i64 sn, .int .i64 sb, .int .i64 dn, .int .i64 db, .int .i64 pr, .int .i64 lo, .int .i64 hi, .int .i64 cl] #[.int .i64 f0, .int .i64 g1, .slice a nf c, .int .i64 fs, .int .i64 fd, .int .i64 fp, .int .i64 sp, .int .i64 dp, .int .i64 mk, .int .i64 sm, .string fb] a ft w5) := XR.out.1.below q; clear q) | (have X5 : Hid (RfS w B #[.int .i64 i, .int .i64 p, .int .i64 sn, .int .i64 sb, .int .i64 dn, .int .i64 db, .int .i64 pr, .int .i64 lo, .int .i64 hi, .int .i64 cl] #[.int .i64 f0, .int .i64 g1, .slice a nf c, .int .i64 fs, .int .i64 fd, .int .i64 fp, .int .i64 sp, .int .i64 dp, .int .i64 mk, .int .i64 sm, .string fb] a ft w5) := XF.out.1.below q; clear q)))
    all_goals (go_wp2_with fail; go_meet; exact ⟨rfl, X5.out⟩)
  case rest =>
  obtain ⟨rfl, hx5⟩ := hcut.out
  obtain ⟨w5, rfl⟩ : ∃ w5, w5 = wc := ⟨_, rfl⟩
  have X5 : Hid (RfS w B #[.int .i64 i, .int .i64 p, .int .i64 sn, .int .i64 sb, .int .i64 dn, .int .i64 db, .int .i64 pr, .int .i64 lo, .int .i64 hi, .int .i64 cl] #[.int .i64 f0, .int .i64 g1, .slice a nf c, .int .i64 fs, .int .i64 fd, .int .i64 fp, .int .i64 sp, .int .i64 dp, .int .i64 mk, .int .i64 sm, .string fb] a ft w5) := hx5
  clear hcut hx5 X2
  have y_w50 : w5.cell? ⟨B + 1, 0, none⟩ = some (.int .i64 f0) := X5.out.fb.cell 0 rfl
  have y_w51 : w5.cell? ⟨B + 1, 1, none⟩ = some (.int .i64 g1) := X5.out.fb.cell 1 rfl
  have y_w52 : w5.cell? ⟨B + 1, 2, none⟩ = some (.slice a nf c) := X5.out.fb.cell 2 rfl
  have y_w53 : w5.cell? ⟨B + 1, 3, none⟩ = some (.int .i64 fs) := X5.out.fb.cell 3 rfl
  have y_w54 : w5.cell? ⟨B + 1, 4, none⟩ = some (.int .i64 fd) := X5.out.fb.cell 4 rfl
  have y_w55 : w5.cell? ⟨B + 1, 5, none⟩ = some (.int .i64 fp) := X5.out.fb.cell 5 rfl
  have y_w56 : w5.cell? ⟨B + 1, 6, none⟩ = some (.int .i64 sp) := X5.out.fb.cell 6 rfl
  have y_w57 : w5.cell? ⟨B + 1, 7, none⟩ = some (.int .i64 dp) := X5.out.fb.cell 7 rfl
  have y_w58 : w5.cell? ⟨B + 1, 8, none⟩ = some (.int .i64 mk) := X5.out.fb.cell 8 rfl
  have y_w59 : w5.cell? ⟨B + 1, 9, none⟩ = some (.int .i64 sm) := X5.out.fb.cell 9 rfl
  have y_w510 : w5.cell? ⟨B + 1, 10, none⟩ = some (.string fb) := X5.out.fb.cell 10 rfl
  go_wp2_with fail
  refine (C'.out w5 hlen X5.out.ints).mono ?_
  rintro e w6 ⟨b6, rfl, i6, q⟩
  have X6 : Hid (RfS w B #[.int .i64 i, .int .i64 p, .int .i64 sn, .int .i64 sb, .int .i64 dn, .int .i64 db, .int .i64 pr, .int .i64 lo, .int .i64 hi, .int .i64 cl] #[.int .i64 f0, .int .i64 g1, .slice a nf c, .int .i64 fs, .int .i64 fd, .int .i64 fp, .int .i64 sp, .int .i64 dp, .int .i64 mk, .int .i64 sm, .string fb] a ft w6 ∧ IntsAt w6 (some ⟨b6, 0, none⟩) ft) := ⟨X5.out.below q, i6⟩
  clear q i6 X5
  go_wp2_with fail
  have X7 : Hid (RfS w B #[.int .i64 i, .int .i64 p, .int .i64 sn, .int .i64 sb, .int .i64 dn, .int .i64 db, .int .i64 pr, .int .i64 lo, .int .i64 hi, .int .i64 cl] #[.int .i64 f0, .int .i64 g1, .slice a nf c, .int .i64 fs, .int .i64 fd, .int .i64 fp, .int .i64 sp, .int .i64 dp, .int .i64 mk, .int .i64 sm, .string fb] a ft (w6.alloc (.cells #[.int .i64 f0, .int .i64 g1, .slice (some ⟨b6, 0, none⟩) nf nf, .int .i64 fs, .int .i64 fd, .int .i64 fp, .int .i64 sp, .int .i64 dp, .int .i64 mk, .int .i64 sm, .string fb] 38)) ∧ IntsAt (w6.alloc (.cells #[.int .i64 f0, .int .i64 g1, .slice (some ⟨b6, 0, none⟩) nf nf, .int .i64 fs, .int .i64 fd, .int .i64 fp, .int .i64 sp, .int .i64 dp, .int .i64 mk, .int .i64 sm, .string fb] 38)) (some ⟨b6, 0, none⟩) ft ∧ Boxed (w6.alloc (.cells #[.int .i64 f0, .int .i64 g1, .slice (some ⟨b6, 0, none⟩) nf nf, .int .i64 fs, .int .i64 fd, .int .i64 fp, .int .i64 sp, .int .i64 dp, .int .i64 mk, .int .i64 sm, .string fb] 38)) w6.heap.size #[.int .i64 f0, .int .i64 g1, .slice (some ⟨b6, 0, none⟩) nf nf, .int .i64 fs, .int .i64 fd, .int .i64 fp, .int .i64 sp, .int .i64 dp, .int .i64 mk, .int .i64 sm, .string fb] 38) := ⟨X6.out.1.below ((Below.refl _ _).alloc (Nat.le_refl _) _), X6.out.2.alloc _, Boxed.new _ _ _⟩
  obtain ⟨XB, hXB⟩ : ∃ XB, w6.heap.size = XB := ⟨_, rfl⟩
  rw [hXB] at X7 ⊢
  generalize w6.alloc (.cells #[.int .i64 f0, .int .i64 g1, .slice (some ⟨b6, 0, none⟩) nf nf, .int .i64 fs, .int .i64 fd, .int .i64 fp, .int .i64 sp, .int .i64 dp, .int .i64 mk, .int .i64 sm, .string fb] 38) = w7 at X7 ⊢
  clear X6 hXB
  go_cut [8] (fun s8 wc => Hid (s8 = .bool R ∧ RfS w B #[.int .i64 i, .int .i64 p, .int .i64 sn, .int .i64 sb, .int .i64 dn, .int .i64 db, .int .i64 pr, .int .i64 lo, .int .i64 hi, .int .i64 cl] #[.int .i64 f0, .int .i64 g1, .slice a nf c, .int .i64 fs, .int .i64 fd, .int .i64 fp, .int .i64 sp, .int .i64 dp, .int .i64 mk, .int .i64 sm, .string fb] a ft wc ∧ IntsAt wc (some ⟨b6, 0, none⟩) ft ∧ Boxed wc XB #[.int .i64 f0, .int .i64 g1, .slice (some ⟨b6, 0, none⟩) nf nf, .int .i64 fs, .int .i64 fd, .int .i64 fp, .int .i64 sp, .int .i64 dp, .int .i64 mk, .int .i64 sm, .string fb] 38))
  case first =>
    have x_w70 : w7.cell? ⟨B, 0, none⟩ = some (.int .i64 i) := X7.out.1.rb.cell 0 rfl
    have x_w71 : w7.cell? ⟨B, 1, none⟩ = some (.int .i64 p) := X7.out.1.rb.cell 1 rfl
    have x_w72 : w7.cell? ⟨B, 2, none⟩ = some (.int .i64 sn) := X7.out.1.rb.cell 2 rfl
    have x_w73 : w7.cell? ⟨B, 3, none⟩ = some (.int .i64 sb) := X7.out.1.rb.cell 3 rfl
    have x_w74 : w7.cell? ⟨B, 4, none⟩ = some (.int .i64 dn) := X7.out.1.rb.cell 4 rfl
    have x_w75 : w7.cell? ⟨B, 5, none⟩ = some (.int .i64 db) := X7.out.1.rb.cell 5 rfl
    have x_w76 : w7.cell? ⟨B, 6, none⟩ = some (.int .i64 pr) := X7.out.1.rb.cell 6 rfl
    have x_w77 : w7.cell? ⟨B, 7, none⟩ = some (.int .i64 lo) := X7.out.1.rb.cell 7 rfl
    have x_w78 : w7.cell? ⟨B, 8, none⟩ = some (.int .i64 hi) := X7.out.1.rb.cell 8 rfl
    have x_w79 : w7.cell? ⟨B, 9, none⟩ = some (.int .i64 cl) := X7.out.1.rb.cell 9 rfl
    have z_w70 : w7.cell? ⟨XB, 0, none⟩ = some (.int .i64 f0) := X7.out.2.2.cell 0 rfl
    have z_w71 : w7.cell? ⟨XB, 1, none⟩ = some (.int .i64 g1) := X7.out.2.2.cell 1 rfl
    have z_w72 : w7.cell? ⟨XB, 2, none⟩ = some (.slice (some ⟨b6, 0, none⟩) nf nf) := X7.out.2.2.cell 2 rfl
    have z_w73 : w7.cell? ⟨XB, 3, none⟩ = some (.int .i64 fs) := X7.out.2.2.cell 3 rfl
    have z_w74 : w7.cell? ⟨XB, 4, none⟩ = some (.int .i64 fd) := X7.out.2.2.cell 4 rfl
    have z_w75 : w7.cell? ⟨XB, 5, none⟩ = some (.int .i64 fp) := X7.out.2.2.cell 5 rfl
    have z_w76 : w7.cell? ⟨XB, 6, none⟩ = some (.int .i64 sp) := X7.out.2.2.cell 6 rfl
    have z_w77 : w7.cell? ⟨XB, 7, none⟩ = some (.int .i64 dp) := X7.out.2.2.cell 7 rfl
    have z_w78 : w7.cell? ⟨XB, 8, none⟩ = some (.int .i64 mk) := X7.out.2.2.cell 8 rfl
    have z_w79 : w7.cell? ⟨XB, 9, none⟩ = some (.int .i64 sm) := X7.out.2.2.cell 9 rfl
    have z_w710 : w7.cell? ⟨XB, 10, none⟩ = some (.string fb) := X7.out.2.2.cell 10 rfl
    go_region_with (first | (go_at_call 16; refine (T'.out _).mono ?_; rintro e wR ⟨rfl, q⟩; have XR : Hid (RfS w B #[.int .i64 i, .int .i64 p, .int .i64 sn, .int .i64 sb, .int .i64 dn, .int .i64 db, .int .i64 pr, .int .i64 lo, .int .i64 hi, .int .i64 cl] #[.int .i64 f0, .int .i64 g1, .slice a nf c, .int .i64 fs, .int .i64 fd, .int .i64 fp, .int .i64 sp, .int .i64 dp, .int .i64 mk, .int .i64 sm, .string fb] a ft wR ∧ IntsAt wR (some ⟨b6, 0, none⟩) ft ∧ Boxed wR XB #[.int .i64 f0, .int .i64 g1, .slice (some ⟨b6, 0, none⟩) nf nf, .int .i64 fs, .int .i64 fd, .int .i64 fp, .int .i64 sp, .int .i64 dp, .int .i64 mk, .int .i64 sm, .string fb] 38) := ⟨X7.out.1.drew.below q, ints_bel X7.out.2.1 ((Below.refl _ _).drew.trans q), X7.out.2.2.below X7.out.2.2.under ((Below.refl _ _).drew.trans q)⟩; have z_wR0 : wR.cell? ⟨XB, 0, none⟩ = some (.int .i64 f0) := XR.out.2.2.cell 0 rfl; have z_wR1 : wR.cell? ⟨XB, 1, none⟩ = some (.int .i64 g1) := XR.out.2.2.cell 1 rfl; have z_wR2 : wR.cell? ⟨XB, 2, none⟩ = some (.slice (some ⟨b6, 0, none⟩) nf nf) := XR.out.2.2.cell 2 rfl; have z_wR3 : wR.cell? ⟨XB, 3, none⟩ = some (.int .i64 fs) := XR.out.2.2.cell 3 rfl; have z_wR4 : wR.cell? ⟨XB, 4, none⟩ = some (.int .i64 fd) := XR.out.2.2.cell 4 rfl; have z_wR5 : wR.cell? ⟨XB, 5, none⟩ = some (.int .i64 fp) := XR.out.2.2.cell 5 rfl; have z_wR6 : wR.cell? ⟨XB, 6, none⟩ = some (.int .i64 sp) := XR.out.2.2.cell 6 rfl; have z_wR7 : wR.cell? ⟨XB, 7, none⟩ = some (.int .i64 dp) := XR.out.2.2.cell 7 rfl; have z_wR8 : wR.cell? ⟨XB, 8, none⟩ = some (.int .i64 mk) := XR.out.2.2.cell 8 rfl; have z_wR9 : wR.cell? ⟨XB, 9, none⟩ = some (.int .i64 sm) := XR.out.2.2.cell 9 rfl; have z_wR10 : wR.cell? ⟨XB, 10, none⟩ = some (.string fb) := XR.out.2.2.cell 10 rfl; clear q) | (go_at_call 18; refine (I'.out _ _ hlen ?_).mono ?_; exact XR.out.2.1; rintro e w8 ⟨rfl, q⟩; have X8 : Hid (RfS w B #[.int .i64 i, .int .i64 p, .int .i64 sn, .int .i64 sb, .int .i64 dn, .int .i64 db, .int .i64 pr, .int .i64 lo, .int .i64 hi, .int .i64 cl] #[.int .i64 f0, .int .i64 g1, .slice a nf c, .int .i64 fs, .int .i64 fd, .int .i64 fp, .int .i64 sp, .int .i64 dp, .int .i64 mk, .int .i64 sm, .string fb] a ft w8 ∧ IntsAt w8 (some ⟨b6, 0, none⟩) ft ∧ Boxed w8 XB #[.int .i64 f0, .int .i64 g1, .slice (some ⟨b6, 0, none⟩) nf nf, .int .i64 fs, .int .i64 fd, .int .i64 fp, .int .i64 sp, .int .i64 dp, .int .i64 mk, .int .i64 sm, .string fb] 38) := ⟨XR.out.1.below q, ints_bel XR.out.2.1 q, XR.out.2.2.below XR.out.2.2.under q⟩; clear q))
    all_goals (go_wp2_with fail; go_meet; exact ⟨rfl, X8.out⟩)
  case rest =>
  obtain ⟨rfl, hx8⟩ := hcut.out
  obtain ⟨w8, rfl⟩ : ∃ w8, w8 = wc := ⟨_, rfl⟩
  have X8 : Hid (RfS w B #[.int .i64 i, .int .i64 p, .int .i64 sn, .int .i64 sb, .int .i64 dn, .int .i64 db, .int .i64 pr, .int .i64 lo, .int .i64 hi, .int .i64 cl] #[.int .i64 f0, .int .i64 g1, .slice a nf c, .int .i64 fs, .int .i64 fd, .int .i64 fp, .int .i64 sp, .int .i64 dp, .int .i64 mk, .int .i64 sm, .string fb] a ft w8 ∧ IntsAt w8 (some ⟨b6, 0, none⟩) ft ∧ Boxed w8 XB #[.int .i64 f0, .int .i64 g1, .slice (some ⟨b6, 0, none⟩) nf nf, .int .i64 fs, .int .i64 fd, .int .i64 fp, .int .i64 sp, .int .i64 dp, .int .i64 mk, .int .i64 sm, .string fb] 38) := hx8
  clear hcut hx8 X7
  have y_w80 : w8.cell? ⟨B + 1, 0, none⟩ = some (.int .i64 f0) := X8.out.1.fb.cell 0 rfl
  have y_w81 : w8.cell? ⟨B + 1, 1, none⟩ = some (.int .i64 g1) := X8.out.1.fb.cell 1 rfl
  have y_w82 : w8.cell? ⟨B + 1, 2, none⟩ = some (.slice a nf c) := X8.out.1.fb.cell 2 rfl
  have y_w83 : w8.cell? ⟨B + 1, 3, none⟩ = some (.int .i64 fs) := X8.out.1.fb.cell 3 rfl
  have y_w84 : w8.cell? ⟨B + 1, 4, none⟩ = some (.int .i64 fd) := X8.out.1.fb.cell 4 rfl
  have y_w85 : w8.cell? ⟨B + 1, 5, none⟩ = some (.int .i64 fp) := X8.out.1.fb.cell 5 rfl
  have y_w86 : w8.cell? ⟨B + 1, 6, none⟩ = some (.int .i64 sp) := X8.out.1.fb.cell 6 rfl
  have y_w87 : w8.cell? ⟨B + 1, 7, none⟩ = some (.int .i64 dp) := X8.out.1.fb.cell 7 rfl
  have y_w88 : w8.cell? ⟨B + 1, 8, none⟩ = some (.int .i64 mk) := X8.out.1.fb.cell 8 rfl
  have y_w89 : w8.cell? ⟨B + 1, 9, none⟩ = some (.int .i64 sm) := X8.out.1.fb.cell 9 rfl
  have y_w810 : w8.cell? ⟨B + 1, 10, none⟩ = some (.string fb) := X8.out.1.fb.cell 10 rfl
  have z_w80 : w8.cell? ⟨XB, 0, none⟩ = some (.int .i64 f0) := X8.out.2.2.cell 0 rfl
  have z_w81 : w8.cell? ⟨XB, 1, none⟩ = some (.int .i64 g1) := X8.out.2.2.cell 1 rfl
  have z_w82 : w8.cell? ⟨XB, 2, none⟩ = some (.slice (some ⟨b6, 0, none⟩) nf nf) := X8.out.2.2.cell 2 rfl
  have z_w83 : w8.cell? ⟨XB, 3, none⟩ = some (.int .i64 fs) := X8.out.2.2.cell 3 rfl
  have z_w84 : w8.cell? ⟨XB, 4, none⟩ = some (.int .i64 fd) := X8.out.2.2.cell 4 rfl
  have z_w85 : w8.cell? ⟨XB, 5, none⟩ = some (.int .i64 fp) := X8.out.2.2.cell 5 rfl
  have z_w86 : w8.cell? ⟨XB, 6, none⟩ = some (.int .i64 sp) := X8.out.2.2.cell 6 rfl
  have z_w87 : w8.cell? ⟨XB, 7, none⟩ = some (.int .i64 dp) := X8.out.2.2.cell 7 rfl
  have z_w88 : w8.cell? ⟨XB, 8, none⟩ = some (.int .i64 mk) := X8.out.2.2.cell 8 rfl
  have z_w89 : w8.cell? ⟨XB, 9, none⟩ = some (.int .i64 sm) := X8.out.2.2.cell 9 rfl
  have z_w810 : w8.cell? ⟨XB, 10, none⟩ = some (.string fb) := X8.out.2.2.cell 10 rfl
  cases R
  all_goals (
    go_wp2_with fail
    go_region_with (first | (go_at_call 17; refine (C'.out _ hlen ?_).mono ?_; exact X8.out.1.drew.ints; rintro e wF ⟨bF, rfl, iF, q⟩; have XF : Hid (Below w.heap.size w wF ∧ IntsAt wF (some ⟨bF, 0, none⟩) ft ∧ IntsAt wF (some ⟨b6, 0, none⟩) ft ∧ Boxed wF XB #[.int .i64 f0, .int .i64 g1, .slice (some ⟨b6, 0, none⟩) nf nf, .int .i64 fs, .int .i64 fd, .int .i64 fp, .int .i64 sp, .int .i64 dp, .int .i64 mk, .int .i64 sm, .string fb] 38) := ⟨(X8.out.1.drew.below q).bel, iF, ints_bel X8.out.2.1 ((Below.refl _ _).drew.trans q), X8.out.2.2.below X8.out.2.2.under ((Below.refl _ _).drew.trans q)⟩; have z_wF0 : wF.cell? ⟨XB, 0, none⟩ = some (.int .i64 f0) := XF.out.2.2.2.cell 0 rfl; have z_wF1 : wF.cell? ⟨XB, 1, none⟩ = some (.int .i64 g1) := XF.out.2.2.2.cell 1 rfl; have z_wF2 : wF.cell? ⟨XB, 2, none⟩ = some (.slice (some ⟨b6, 0, none⟩) nf nf) := XF.out.2.2.2.cell 2 rfl; have z_wF3 : wF.cell? ⟨XB, 3, none⟩ = some (.int .i64 fs) := XF.out.2.2.2.cell 3 rfl; have z_wF4 : wF.cell? ⟨XB, 4, none⟩ = some (.int .i64 fd) := XF.out.2.2.2.cell 4 rfl; have z_wF5 : wF.cell? ⟨XB, 5, none⟩ = some (.int .i64 fp) := XF.out.2.2.2.cell 5 rfl; have z_wF6 : wF.cell? ⟨XB, 6, none⟩ = some (.int .i64 sp) := XF.out.2.2.2.cell 6 rfl; have z_wF7 : wF.cell? ⟨XB, 7, none⟩ = some (.int .i64 dp) := XF.out.2.2.2.cell 7 rfl; have z_wF8 : wF.cell? ⟨XB, 8, none⟩ = some (.int .i64 mk) := XF.out.2.2.2.cell 8 rfl; have z_wF9 : wF.cell? ⟨XB, 9, none⟩ = some (.int .i64 sm) := XF.out.2.2.2.cell 9 rfl; have z_wF10 : wF.cell? ⟨XB, 10, none⟩ = some (.string fb) := XF.out.2.2.2.cell 10 rfl; clear q iF) | (go_at_call 19; refine (E'.out _ _ _ hlen ?_ ?_).mono ?_; exact XF.out.2.2.1; exact XF.out.2.1; rintro e w9 ⟨rfl, q⟩; have K9 : Hid (Below w.heap.size w w9) := XF.out.1.trans (q.mono XF.out.1.size); clear q))
    all_goals (go_wp2; go_ret; exact ⟨rfl, K9.out⟩))
end Go.Proofs.Ytcafobokdfglfaa
