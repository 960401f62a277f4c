/-
  The walk of the exact law of WhenCan, the program's contract given. By the verifier.
-/
import Derived.Test.YtdnghdepiiimmaaNdCopy
import Derived.Test.YtdnghdepiiimmaaNdCanS
namespace Go.Proofs.Ytdnghdepiiimmaa
open Go.RowKit

set_option maxHeartbeats 1600000 in
theorem fnExactWhenCan_of (impl' : ∀ (l : List Nd) (a : Option Addr) (cap : Nat) (n : Int) (size : Int) (w : World), l.length ≤ 1048576 → l.length ≤ cap → (a = none → cap = 0) → size ≤ 9223372036854775807 → Hid (NdsAt w a l) → Calls Try.prog 28 #[.slice a l.length cap, .int .i64 n, .int .i64 size] w fun e w' => e = .returned (.int .i64 (whenCan l n size)) ∧ Below w.heap.size w w')
    (l : List Nd) (a : Option Addr) (cap : Nat) (n : Int) (size : Int) (w : World) (hl : (l.length : Int) ≤ 9223372036854775807) (wf : size ≤ 9223372036854775807) (h : Hid (NdsAt w a l)) :
    Calls Try.prog 8 #[.slice a l.length cap, .int .i64 n, .int .i64 size] w fun e w' => e = .returned (.bool true) ∧ Below w.heap.size w w' := by
  have S := fun w => szNds 1048576 (by omega) (by omega) a cap l.length w hl
  by_cases hbig : (1048576 : Int) - l.length < 0
  · rw [if_pos hbig] at S
    generalize l.length = len at S hl hbig ⊢
    clear h
    go_enter Try.func8, Try.ntmps8
    go_wp2_with (go_at_call 9; refine (S _).mono ?_; rintro e w' ⟨rfl, rfl⟩)
    go_ret
    exact ⟨rfl, Below.refl _ _⟩
  rw [if_neg hbig] at S
  have hT : l.length ≤ 1048576 := by omega
  have T := fun w h => toNds a cap l w hT h
  have C := fun g w h => specWhenCan (some ⟨g, 0, none⟩) l.length l n size w hT wf h
  have D := fun g w h => impl' l (some ⟨g, 0, none⟩) l.length n size w hT (Nat.le_refl _) (fun q => by cases q) wf h
  have E := fun g1 g2 w h1 h2 => eqNds (some ⟨g1, 0, none⟩) (some ⟨g2, 0, none⟩) l.length l.length l w hT h1 h2
  generalize whenCan l n size = ok at C D
  have T' : Hid _ := T
  have C' : Hid _ := C
  have D' : Hid _ := D
  have E' : Hid _ := E
  clear T C D E
  have at1 : Hid (∀ (b : Nat) (W : World) (g : Nat), NdRow b W (.slice (some ⟨g, 0, none⟩) l.length l.length) l → NdsAt W (some ⟨g, 0, none⟩) l) := fun b W g h => h.at
  have lt1 : Hid (∀ (b : Nat) (W : World) (g : Nat), NdRow b W (.slice (some ⟨g, 0, none⟩) l.length l.length) l → g < W.heap.size) := fun b W g h => (h.lt g rfl).2
  obtain ⟨len, hlen⟩ : ∃ n, l.length = n := ⟨_, rfl⟩
  simp only [hlen] at S T' C' D' E' at1 lt1 hl hbig ⊢
  clear hlen hT wf
  go_enter Try.func8, Try.ntmps8
  go_wp2_with (go_at_call 9; refine (S _).mono ?_; rintro e w' ⟨rfl, hw⟩; have hw := hw.symm; subst hw)
  refine (T'.out _ h).mono ?_
  rintro e w1 ⟨g1, rfl, r1, b1⟩
  have H1 : Hid (NdsAt w1 (some ⟨g1, 0, none⟩) l ∧ Below w.heap.size w w1) := ⟨at1.out _ _ _ r1, b1⟩
  clear r1 b1
  go_wp2_with fail
  refine (C'.out _ _ H1.out.1).mono ?_
  rintro e w2 ⟨rfl, b2⟩
  have H2 : Hid (Below w.heap.size w w2) := H1.out.2.trans (b2.mono H1.out.2.size)
  clear b2 H1
  go_wp2_with fail
  refine (T'.out _ (h.out.below H2.out)).mono ?_
  rintro e w3 ⟨g3, rfl, r3, b3⟩
  have H3 : Hid (NdsAt w3 (some ⟨g3, 0, none⟩) l ∧ Below w.heap.size w w3) := ⟨at1.out _ _ _ r3, H2.out.trans (b3.mono H2.out.size)⟩
  clear r3 b3 H2
  go_wp2_with fail
  refine (D'.out _ _ H3.out.1).mono ?_
  rintro e w4 ⟨rfl, b4⟩
  have H4 : Hid (NdsAt w4 (some ⟨g3, 0, none⟩) l ∧ Below w.heap.size w w4) := ⟨H3.out.1.below b4, H3.out.2.trans (b4.mono H3.out.2.size)⟩
  clear b4 H3
  · skip
    go_wp2_with fail
    refine (T'.out _ (h.out.below H4.out.2)).mono ?_
    rintro e w5 ⟨g5, rfl, r5, b5⟩
    have H5 : Hid (NdsAt w5 (some ⟨g3, 0, none⟩) l ∧ NdsAt w5 (some ⟨g5, 0, none⟩) l ∧ Below w.heap.size w w5) := ⟨H4.out.1.below b5, at1.out _ _ _ r5, H4.out.2.trans (b5.mono H4.out.2.size)⟩
    clear r5 b5 H4
    go_wp2_with fail
    refine (E'.out _ _ _ H5.out.1 H5.out.2.1).mono ?_
    rintro e w6 ⟨rfl, b6⟩
    have H6 : Hid (Below w.heap.size w w6) := H5.out.2.2.trans (b6.mono H5.out.2.2.size)
    clear b6 H5
    go_wp2
    go_ret
    exact ⟨rfl, H6.out⟩
end Go.Proofs.Ytdnghdepiiimmaa
