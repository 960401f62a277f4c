/-
  The walk of the program's Can. By the verifier.
-/
import Derived.Test.YtfdapmchpikfiaaNdNum
import Derived.Test.YtfdapmchpikfiaaHasI
import Derived.Deep.RegionWith
namespace Go.Proofs.Ytfdapmchpikfiaa
open Go.RowKit Go.Shelf

set_option maxHeartbeats 1600000 in
set_option maxRecDepth 100000 in
theorem implCanAt (l : List Nd) (a : Option Addr) (cap : Nat) (size : Int) (B3 B5 k : Nat) (w : World) (hk : k < l.length) (h3 : Boxed w B3 #[.slice a l.length cap] 24) (h5 : Boxed w B5 #[.int .i64 size] 2) (h : NdsAt w a l) :
    Calls Try.prog 31 #[.int .i64 (k : Int), .pointer (some ⟨B3, 0, none⟩), .pointer (some ⟨B5, 0, none⟩)] w fun e w' => e = .returned (.bool (!inB 0 (ndAt l k).pz.level size)) ∧ Below w.heap.size w w' := by
  obtain ⟨b1, o1, ha1, hb1, -⟩ := h k hk
  subst ha1
  have c3 := (h.cells (k := k) hk).2.2.2.1
  have d3 : w.cell? ⟨B3, 0, none⟩ = some (.slice (some ⟨b1, o1, none⟩) l.length cap) := h3.cell 0 rfl
  have d5 : w.cell? ⟨B5, 0, none⟩ = some (.int .i64 size) := h5.cell 0 rfl
  have u3 := h3.under
  have u5 := h5.under
  have A : Nat → Calls Try.prog 32 #[.int .i64 (ndAt l k).pz.level, .slice (some ⟨w.heap.size, 0, none⟩) 1 1] (w.alloc (.cells #[.int .i64 size] 2)).drew fun e w' => e = .returned (.bool (inB 0 (ndAt l k).pz.level size)) ∧ Below w.heap.size w w' := fun _ => by
    have hI : IntsAt (w.alloc (.cells #[.int .i64 size] 2)).drew (some ⟨w.heap.size, 0, none⟩) [size] := (ints_new w 2 [size] #[.int .i64 size] w.heap.size rfl rfl).below (Below.refl _ _).drew
    have q := implUpTo (ndAt l k).pz.level (some ⟨w.heap.size, 0, none⟩) 1 [size] (w.alloc (.cells #[.int .i64 size] 2)).drew (by simp) hI
    refine Calls.mono (by simpa using q) ?_
    rintro e w' ⟨rfl, rfl⟩
    exact ⟨rfl, ((Below.refl _ _).alloc (Nat.le_refl _) _).drew⟩
  generalize inB 0 (ndAt l k).pz.level size = y at A ⊢
  generalize (ndAt l k).pz.level = lev at A c3
  have hlt : (k : Int) < (l.length : Int) := by omega
  generalize l.length = len at d3 hlt
  have A' : Hid _ := A
  clear A h3 h5 h hk
  go_enter Try.func31, Try.ntmps31
  go_upto_region 1 with fail
  go_region_with (go_at_call 32; refine (A'.out 0).mono ?_; rintro e w' ⟨rfl, q⟩; have B2 : Hid (Below w.heap.size w w') := q; clear q)
  all_goals (
    go_wp2
    go_ret
    exact ⟨rfl, B2.out⟩)

theorem can_any (l : List Nd) (n size : Int) : (decide (0 < (pathOf l n).length) && !(pathOf l n).any fun x => !inB 0 (ndAt l x.toNat).pz.level size) = can l n size := by
  unfold can pathOf canP
  by_cases hin : tin l n = true
  · rw [if_pos hin, hin, Bool.true_and]
    obtain ⟨hok, h0, h1⟩ := tin_iff.1 hin
    have hp := path_pos hok h0 h1
    rw [decide_eq_true hp, Bool.true_and, Bool.eq_iff_iff]
    simp only [Bool.not_eq_true', List.any_eq_false, Bool.not_eq_false, Bool.and_eq_true, decide_eq_true_eq, List.all_eq_true]
    constructor
    · intro h
      have hx := path_next hok h0 h1
      have g := h n (by rw [hx]; exact List.mem_cons_self ..)
      simp only [inB_true] at g
      refine ⟨by omega, fun x hx => ?_⟩
      have g := h x hx
      simp only [inB_true] at g
      exact g.2
    · rintro ⟨g0, g⟩ x hx
      simp only [inB_true]
      exact ⟨g0, g x hx⟩
  · have e : tin l n = false := by simpa using hin
    rw [if_neg hin, e]
    rfl

set_option maxHeartbeats 3200000 in
set_option maxRecDepth 100000 in
theorem implCan (l : List Nd) (a : Option Addr) (cap : Nat) (n : Int) (size : Int) (w : World) (hT : l.length ≤ 1048576) (hc : l.length ≤ cap) (hcn : a = none → cap = 0) (h : Hid (NdsAt w a l)) :
    Calls Try.prog 9 #[.slice a l.length cap, .int .i64 n, .int .i64 size] w fun e w' => e = .returned (.bool (can l n size)) ∧ Below w.heap.size w w' := by
  have Hc : Hid (can l n size = (decide (0 < (pathOf l n).length) && !(pathOf l n).any fun x => !inB 0 (ndAt l x.toNat).pz.level size)) := (can_any l n size).symm
  obtain ⟨W0, hW0⟩ : ∃ W0, W0 = (w.alloc (.cells #[.slice a l.length cap] 24)).alloc (.cells #[.int .i64 size] 2) := ⟨_, rfl⟩
  have X : Hid (Boxed W0 w.heap.size #[.slice a l.length cap] 24 ∧ Boxed W0 (w.heap.size + 1) #[.int .i64 size] 2 ∧ NdsAt W0 a l ∧ Below w.heap.size w W0) := by
    rw [hW0]
    refine ⟨(Boxed.new w _ _).more _, ?_, (h.out.alloc _).alloc _, ((Below.refl _ _).alloc (Nat.le_refl _) _).alloc (by simp) _⟩
    have := Boxed.new (w.alloc (.cells #[.slice a l.length cap] 24)) #[.int .i64 size] 2
    simpa using this
  have HW : Hid (W0 = _) := hW0
  clear hW0
  have A1 := fun (_ : Nat) => implPathOf a cap l n W0 hT hc hcn X.out.2.2.1
  have Hs : Hid (∀ x ∈ pathOf l n, 0 ≤ x ∧ x < l.length) := fun x hx => by
    unfold pathOf at hx
    by_cases hin : tin l n = true
    · rw [if_pos hin] at hx
      obtain ⟨hok, h0, h1⟩ := tin_iff.1 hin
      have := path_mem hok (by omega) h1 x hx
      omega
    · rw [if_neg hin] at hx
      simp at hx
  have Hl := pathOf_len l n
  have A2 : Hid (∀ (P : List Int) (w1 : World) (a2 : Option Addr) (c2 : Nat), P.length ≤ 12 → (∀ x ∈ P, 0 ≤ x ∧ x < l.length) → Below W0.heap.size W0 w1 → IntsAt w1 a2 P → Calls Try.prog 30 #[.slice a2 P.length c2, .func (.func 31) #[] #[.pointer (some ⟨w.heap.size, 0, none⟩), .pointer (some ⟨w.heap.size + 1, 0, none⟩)]] w1 fun e w' => e = .returned (.bool (P.any fun x => !inB 0 (ndAt l x.toNat).pz.level size)) ∧ Below w1.heap.size w1 w') := fun P w1 a2 c2 p1 p2 p3 p4 => by
    refine implHasI a2 c2 P 31 #[] #[.pointer (some ⟨w.heap.size, 0, none⟩), .pointer (some ⟨w.heap.size + 1, 0, none⟩)] (fun x => 0 ≤ x ∧ x < l.length) (fun x => !inB 0 (ndAt l x.toNat).pz.level size) w1 (by omega) p4 p2 ⟨enters_of Try.func31 (by kernel_rfl) rfl, ?_⟩
    intro W x hx hW
    obtain ⟨k, rfl⟩ : ∃ k : Nat, x = (k : Int) := ⟨x.toNat, by omega⟩
    have hb : Below W0.heap.size W0 W := p3.trans (hW.mono p3.size)
    rw [Int.toNat_natCast]
    exact implCanAt l a cap size _ _ k W (by omega) (X.out.1.below X.out.1.under hb) (X.out.2.1.below X.out.2.1.under hb) (X.out.2.2.1.below hb)
  generalize can l n size = R at Hc ⊢
  generalize pathOf l n = P at A1 Hs Hl Hc
  have c0 : W0.cell? ⟨w.heap.size, 0, none⟩ = some (.slice a l.length cap) := X.out.1.cell 0 rfl
  have HB : Hid (Below w.heap.size w W0) := X.out.2.2.2
  obtain ⟨pn, hpn⟩ : ∃ m, P.length = m := ⟨_, rfl⟩
  have A3 : Hid (∀ (w1 : World) (a2 : Option Addr) (c2 : Nat), Below W0.heap.size W0 w1 → IntsAt w1 a2 P → Calls Try.prog 30 #[.slice a2 pn c2, .func (.func 31) #[] #[.pointer (some ⟨w.heap.size, 0, none⟩), .pointer (some ⟨w.heap.size + 1, 0, none⟩)]] w1 fun e w' => e = .returned (.bool (P.any fun x => !inB 0 (ndAt l x.toNat).pz.level size)) ∧ Below w1.heap.size w1 w') := fun w1 a2 c2 p3 p4 => by
    have := A2.out P w1 a2 c2 Hl Hs.out p3 p4
    rw [hpn] at this
    exact this
  have Hp : Hid (P.length = pn) := hpn
  rw [hpn] at Hc Hl
  generalize (P.any fun x => !inB 0 (ndAt l x.toNat).pz.level size) = b at A3 Hc
  generalize l.length = len at c0 A1 HW ⊢
  have A1' : Hid _ := A1
  clear A1 A2 hpn Hs hT hc hcn h X
  go_enter Try.func9, Try.ntmps9
  go_upto_region 1 with fail
  rw [← HW.out]
  clear HW
  go_wp2_with fail
  refine (A1'.out 0).mono ?_
  rintro e w1 ⟨⟨v, rfl, r⟩, q⟩
  obtain ⟨a2, c2, rfl⟩ := r.shape
  have I : Hid (IntsAt w1 a2 P ∧ Below W0.heap.size W0 w1 ∧ Below w.heap.size w w1) := ⟨r.ints, q, HB.out.trans (q.mono HB.out.size)⟩
  rw [Hp.out]
  clear r q A1' c0
  by_cases h0 : (0 : Int) < (pn : Int)
  · go_wp2_with fail
    refine (A3.out _ _ _ I.out.2.1 I.out.1).mono ?_
    rintro e w2 ⟨rfl, q⟩
    have B2 : Hid (Below w.heap.size w w2) := I.out.2.2.trans (q.mono I.out.2.2.size)
    clear q
    go_wp2
    go_ret
    exact ⟨ret_bool (by rw [Hc.out, decide_eq_true (by omega), Bool.true_and]), B2.out⟩
  · obtain rfl : pn = 0 := by omega
    go_wp2
    go_ret
    exact ⟨ret_bool (by rw [Hc.out]; rfl), I.out.2.2⟩
end Go.Proofs.Ytfdapmchpikfiaa
