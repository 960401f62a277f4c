/-
  The walk of the program's Alike. By the verifier.
-/
import Derived.Test.YtilnjmpnhadidaaCpTurns
import Derived.Test.YtilnjmpnhadidaaCpDiff
import Derived.Test.YtilnjmpnhadidaaCpCat
import Derived.Test.YtilnjmpnhadidaaRtTrieOf
import Derived.Test.YtilnjmpnhadidaaRtOk
namespace Go.Proofs.Ytilnjmpnhadidaa
open Go.RowKit

/-- What Alike answers. -/
def alikeB (a b : List Rt) : Bool := (turnsL (a ++ b)).all fun x => decide (hopL a x = hopL b x)
def alikeV (a b : List Rt) : Bool := rtsOk a && (rtsOk b && alikeB a b)

set_option maxHeartbeats 1600000 in
theorem implAlike (a b : Option Addr) (ca cb : Nat) (la lb : List Rt) (w : World) (hTa : la.length ≤ 1048576) (hTb : lb.length ≤ 1048576) (hca : la.length ≤ ca) (hcb : lb.length ≤ cb) (hna : a = none → ca = 0) (hnb : b = none → cb = 0) (ha : Hid (RtsAt w a la)) (hb : Hid (RtsAt w b lb)) :
    Calls Try.prog 14 #[.slice a la.length ca, .slice b lb.length cb] w fun e w' => e = .returned (.bool (alikeV la lb)) ∧ Below w.heap.size w w' := by
  have C := fun w h => implOk a ca la w hTa h
  have D := fun w h => implOk b cb lb w hTb h
  unfold alikeV
  cases hoa : rtsOk la
  · rw [hoa] at C
    have C' : Hid _ := C
    simp only [Bool.false_and]
    clear C D hoa hca hcb hTa hTb
    generalize la.length = na at C' ⊢
    generalize lb.length = nb
    go_enter Try.func14, Try.ntmps14
    go_wp2_with fail
    refine (C'.out _ ha).mono ?_
    rintro e w1 ⟨rfl, b1⟩
    have B : Hid (Below w.heap.size w w1) := b1
    clear b1
    go_wp2
    go_ret
    exact ⟨rfl, B.out⟩
  rw [hoa] at C
  simp only [Bool.true_and]
  cases hob : rtsOk lb
  · rw [hob] at D
    have C' : Hid _ := C
    have D' : Hid _ := D
    simp only [Bool.false_and]
    clear C D hoa hob hca hcb hTa hTb
    generalize la.length = na at C' ⊢
    generalize lb.length = nb at D' ⊢
    go_enter Try.func14, Try.ntmps14
    go_wp2_with fail
    refine (C'.out _ ha).mono ?_
    rintro e w1 ⟨rfl, b1⟩
    have B : Hid (Below w.heap.size w w1) := b1
    clear b1
    go_wp2_with fail
    refine (D'.out _ (hb.out.below B.out)).mono ?_
    rintro e w2 ⟨rfl, b2⟩
    have B2 : Hid (Below w.heap.size w w2) := B.out.trans (b2.mono B.out.size)
    clear b2 B
    go_wp2
    go_ret
    exact ⟨rfl, B2.out⟩
  rw [hob] at D
  simp only [Bool.true_and]
  have fa := fine_of hoa
  have fb := fine_of hob
  have h64a := (ok_all hoa).1
  have h64b := (ok_all hob).1
  have TA : Hid (∀ w, RtsAt w a la → Calls Try.prog 35 #[.slice a la.length ca, .int .i64 0] w fun e w' => (∃ v, e = .returned v ∧ Answers w' v 0 0 (hopL la)) ∧ Below w.heap.size w w') := fun w h => implTrie 32 0 rfl la a ca 0 w (trieOk_of hoa) h64a hca h
  have TB : Hid (∀ w, RtsAt w b lb → Calls Try.prog 35 #[.slice b lb.length cb, .int .i64 0] w fun e w' => (∃ v, e = .returned v ∧ Answers w' v 0 0 (hopL lb)) ∧ Below w.heap.size w w') := fun w h => implTrie 32 0 rfl lb b cb 0 w (trieOk_of hob) h64b hcb h
  have CT : Hid (∀ S w, Boxed w S #[.slice a la.length ca, .slice b lb.length cb] 24 → RtsAt w a la → RtsAt w b lb → Calls Try.prog 38 #[.slice (some ⟨S, 0, none⟩) 2 2] w fun e w' => (∃ v, e = .returned v ∧ RRow w.heap.size w' v (la ++ lb)) ∧ Below w.heap.size w w') := fun S w hS h1 h2 => implCat S a b ca cb la lb w h64a h64b hna hnb hS h1 h2
  have hokc : ∀ r ∈ la ++ lb, r.ok = true := fun r hr => (List.mem_append.1 hr).elim (fa.ok r) (fb.ok r)
  have hlc : (la ++ lb).length ≤ 128 := by rw [List.length_append]; omega
  have TU : Hid (∀ base x v, RRow base x v (la ++ lb) → ∃ a2 c2, v = .slice a2 (la ++ lb).length c2 ∧ Calls Try.prog 37 #[.slice a2 (la ++ lb).length c2] x fun e w' => (∃ v', e = .returned v' ∧ IRow x.heap.size w' v' (turnsL (la ++ lb))) ∧ Below x.heap.size x w') := by
    intro base x v hr
    obtain ⟨a2, c2, rfl⟩ := hr.shape
    exact ⟨a2, c2, rfl, implTurns a2 c2 (la ++ lb) x hlc hokc hr.at⟩
  have hin : ∀ x ∈ turnsL (la ++ lb), 0 ≤ x ∧ x ≤ 4294967295 := by
    intro x hx
    unfold turnsL at hx
    rw [List.mem_flatMap] at hx
    obtain ⟨r, hr, hx⟩ := hx
    exact turn_in (hokc r hr) x hx
  have hlt : (turnsL (la ++ lb)).length ≤ 1024 := by have := turns_le (la ++ lb); omega
  have HC : Hid (∀ base x v B5 B6 va vb, IRow base x v (turnsL (la ++ lb)) → Answers x va 0 0 (hopL la) → Answers x vb 0 0 (hopL lb) → Boxed x B5 #[va] 46 → Boxed x B6 #[vb] 46 → ∃ a2 n2 c2, v = .slice a2 n2 c2 ∧ Calls Try.prog 36 #[.slice a2 n2 c2, .func (.func 39) #[] #[.pointer (some ⟨B5, 0, none⟩), .pointer (some ⟨B6, 0, none⟩)]] x fun e w' => e = .returned (.bool (!alikeB la lb)) ∧ Below x.heap.size x w') := by
    intro base x v B5 B6 va vb hr aa ab x5 x6
    obtain ⟨a2, c2, rfl⟩ := hr.shape
    refine ⟨a2, _, c2, rfl, ?_⟩
    have e1 : (!alikeB la lb) = (turnsL (la ++ lb)).any fun y => !decide (hopL la y = hopL lb y) := by
      unfold alikeB
      rw [List.any_eq_not_all_not]
      simp
    rw [e1]
    refine implHasI a2 c2 (turnsL (la ++ lb)) 39 #[] #[.pointer (some ⟨B5, 0, none⟩), .pointer (some ⟨B6, 0, none⟩)] (fun y => 0 ≤ y ∧ y ≤ 4294967295) _ x hlt hr.ints hin ⟨enters_of Try.func39 (by kernel_rfl) rfl, fun W y hy hW => ?_⟩
    exact implDiff (hopL la) (hopL lb) va vb B5 B6 y hy.1 hy.2 W (aa.below hW) (ab.below hW) (x5.below x5.under hW) (x6.below x6.under hW)
  have C' : Hid _ := C
  have D' : Hid _ := D
  have hmf : ∀ (fn : Fn) (first cap : Array Value) (w : World), (Instr.makeFunc fn first cap).run Try.prog w = .ok (.func fn first cap) w := fun _ _ _ _ => rfl
  generalize alikeB la lb = z at HC ⊢
  generalize turnsL (la ++ lb) = T at TU HC
  generalize (la ++ lb).length = nc at TU
  clear C D hoa hob hca hcb hTa hTb fa fb h64a h64b hokc hlc hin hlt hna hnb
  generalize la.length = na at C' TA CT ⊢
  generalize lb.length = nb at D' TB CT ⊢
  go_enter Try.func14, Try.ntmps14
  go_wp2_with fail
  refine (C'.out _ ha).mono ?_
  rintro e w1 ⟨rfl, b1⟩
  have B : Hid (Below w.heap.size w w1) := b1
  clear b1
  go_wp2_with fail
  refine (D'.out _ (hb.out.below B.out)).mono ?_
  rintro e w2 ⟨rfl, b2⟩
  have B2 : Hid (Below w.heap.size w w2) := B.out.trans (b2.mono B.out.size)
  clear b2 B
  go_wp2_with fail
  refine (TA.out _ (ha.out.below B2.out)).mono ?_
  rintro e w3 ⟨⟨va, rfl, ansA⟩, b3⟩
  have B3 : Hid (Below w.heap.size w w3 ∧ Answers w3 va 0 0 (hopL la)) := ⟨B2.out.trans (b3.mono B2.out.size), ansA⟩
  clear b3 ansA B2
  go_wp2_with fail
  refine (TB.out _ (hb.out.below B3.out.1)).mono ?_
  rintro e w4 ⟨⟨vb, rfl, ansB⟩, b4⟩
  have B4 : Hid (Below w.heap.size w w4 ∧ Answers w4 va 0 0 (hopL la) ∧ Answers w4 vb 0 0 (hopL lb)) := ⟨B3.out.1.trans (b4.mono B3.out.1.size), B3.out.2.below b4, ansB⟩
  obtain ⟨g5, cb5, _, hv5, _⟩ := B3.out.2
  obtain ⟨g6, cb6, _, hv6, _⟩ := ansB
  subst hv5 hv6
  clear b4 B3
  obtain ⟨W5, hW5⟩ : ∃ W, (w4.alloc (.cells #[.nilFunc] 46)).alloc (.cells #[.nilFunc] 46) = W := ⟨_, rfl⟩
  have X5 : Boxed W5 w4.heap.size #[.nilFunc] 46 ∧ Boxed W5 (w4.heap.size + 1) #[.nilFunc] 46 ∧ Below w4.heap.size w4 W5 := by
    rw [← hW5]
    have e : (w4.alloc (.cells #[.nilFunc] 46)).heap.size = w4.heap.size + 1 := by simp
    have x := Boxed.new (w4.alloc (.cells #[.nilFunc] 46)) #[.nilFunc] 46
    rw [e] at x
    exact ⟨(Boxed.new _ _ _).more _, x, ((Below.refl _ w4).alloc (Nat.le_refl _) _).alloc (by simp) _⟩
  obtain ⟨x5, x6, bw5⟩ := X5
  obtain ⟨W6, hW6⟩ : ∃ W, W5.setCell ⟨w4.heap.size, 0, none⟩ (.func (.func g5) #[] cb5) = W := ⟨_, rfl⟩
  have y5 : Boxed W6 w4.heap.size #[.func (.func g5) #[] cb5] 46 := by rw [← hW6]; exact x5.put 0 _
  have y6 : Boxed W6 (w4.heap.size + 1) #[.nilFunc] 46 := by rw [← hW6]; exact x6.far (by omega) 0 _
  have bw6 : Below w4.heap.size w4 W6 := by rw [← hW6]; exact bw5.setCell (Nat.le_refl _) _
  obtain ⟨W7, hW7⟩ : ∃ W, W6.setCell ⟨w4.heap.size + 1, 0, none⟩ (.func (.func g6) #[] cb6) = W := ⟨_, rfl⟩
  have z5 : Boxed W7 w4.heap.size #[.func (.func g5) #[] cb5] 46 := by rw [← hW7]; exact y5.far (by omega) 0 _
  have z6 : Boxed W7 (w4.heap.size + 1) #[.func (.func g6) #[] cb6] 46 := by rw [← hW7]; exact y6.put 0 _
  have bw7 : Below w4.heap.size w4 W7 := by rw [← hW7]; exact bw6.setCell (by show w4.heap.size ≤ w4.heap.size + 1; omega) _
  have i5 : W5.frozen? ⟨w4.heap.size, 0, none⟩ = false := x5.ice 0
  have k5 : W5.cell? ⟨w4.heap.size, 0, none⟩ = some .nilFunc := x5.cell 0 rfl
  have i6 : W6.frozen? ⟨w4.heap.size + 1, 0, none⟩ = false := y6.ice 0
  have k6 : W6.cell? ⟨w4.heap.size + 1, 0, none⟩ = some .nilFunc := y6.cell 0 rfl
  have st5 : (store ⟨w4.heap.size, 0, none⟩ (.func (.func g5) #[] cb5)).run Try.prog W5 = .ok () W6 := by
    rw [run_store Try.prog W5 _ _ _ rfl]
    simp [k5, i5, hW6]
  have st6 : (store ⟨w4.heap.size + 1, 0, none⟩ (.func (.func g6) #[] cb6)).run Try.prog W6 = .ok () W7 := by
    rw [run_store Try.prog W6 _ _ _ rfl]
    simp [k6, i6, hW7]
  have H7 : Hid (Boxed W7 w4.heap.size #[.func (.func g5) #[] cb5] 46 ∧ Boxed W7 (w4.heap.size + 1) #[.func (.func g6) #[] cb6] 46 ∧ Below w.heap.size w W7 ∧ Answers W7 (.func (.func g5) #[] cb5) 0 0 (hopL la) ∧ Answers W7 (.func (.func g6) #[] cb6) 0 0 (hopL lb)) := ⟨z5, z6, B4.out.1.trans (bw7.mono B4.out.1.size), B4.out.2.1.below bw7, B4.out.2.2.below bw7⟩
  clear x5 x6 bw5 y5 y6 bw6 z5 z6 bw7 B4
  go_wp2_with fail
  clear hW5 hW6 hW7 i5 k5 i6 k6 st5 st6
  refine (CT.out _ _ (Boxed.new W7 _ _) ((ha.out.below H7.out.2.2.1).alloc _) ((hb.out.below H7.out.2.2.1).alloc _)).mono ?_
  rintro e w8 ⟨⟨v8, rfl, r8⟩, b8⟩
  obtain ⟨a8, c8, rfl, TU8⟩ := TU.out _ _ _ r8
  have b78 : Below W7.heap.size W7 w8 := ((Below.refl _ W7).alloc (Nat.le_refl _) _).trans (b8.mono (by simp))
  have H8 : Hid (Below W7.heap.size W7 w8) := b78
  clear r8 b8 b78
  go_wp2_with fail
  refine TU8.mono ?_
  rintro e w9 ⟨⟨v9, rfl, r9⟩, b9⟩
  have b79 : Below W7.heap.size W7 w9 := H8.out.trans (b9.mono H8.out.size)
  obtain ⟨a9, n9, c9, rfl, HC9⟩ := HC.out _ _ _ w4.heap.size (w4.heap.size + 1) _ _ r9 (H7.out.2.2.2.1.below b79) (H7.out.2.2.2.2.below b79) (H7.out.1.below H7.out.1.under b79) (H7.out.2.1.below H7.out.2.1.under b79)
  have H9 : Hid (Below w.heap.size w w9) := H7.out.2.2.1.trans (b79.mono H7.out.2.2.1.size)
  clear r9 b9 b79 TU8
  go_wp2_with fail
  refine HC9.mono ?_
  rintro e wA ⟨rfl, bA⟩
  have HA : Hid (Below w.heap.size w wA) := H9.out.trans (bA.mono H9.out.size)
  clear bA HC9
  go_wp2
  go_ret
  exact ⟨by simp, HA.out⟩
end Go.Proofs.Ytilnjmpnhadidaa
