/-
  The model's drawing of purses. By the verifier, by program.
-/
import Derived.Test.YtfdapmchpikfiaaDrawRec
import Derived.Test.YtfdapmchpikfiaaDrawFrom
import Derived.Test.YtfdapmchpikfiaaM0PzPlain
import Derived.Test.YtfdapmchpikfiaaStepRow
import Derived.Test.YtfdapmchpikfiaaRegList
import Derived.Deep.DeepCutAuto
namespace Go.Proofs.Ytfdapmchpikfiaa
open Go.RowKit

/-- Numbers of a drawn purse. -/
def Pz.drawn (p : Pz) : Prop := (-1 ≤ p.rate ∧ p.rate ≤ 1001) ∧ (0 ≤ p.burst ∧ p.burst ≤ 100001) ∧ (0 ≤ p.level ∧ p.level ≤ 100003) ∧ (-1 ≤ p.tm ∧ p.tm ≤ 1099511627777)
set_option maxHeartbeats 6400000 in
set_option maxRecDepth 100000 in
theorem drawPurse {W : World} {bc : Nat} {a : Option Addr} {len cap : Nat} (hc : Hid (Code W a len)) (w : World) (cur : Hid (Cur W bc a len cap w)) :
    Calls Try.prog 56 #[.pointer (some ⟨bc, 0, none⟩)] w fun e w' => (∃ v, e = .returned v ∧ ∃ l : Pz, v = l.val ∧ l.drawn) ∧ Cur W bc a len cap w' ∧ Keep bc w w' := by
  have hbc := cur.out.lt
  go_enter Try.func56, Try.ntmps56
  go_wp2_with fail
  refine (drawBelow hc 8 (by omega) _ (cur.out.alloc _)).mono ?_
  rintro e w1 ⟨⟨x0, rfl, x00, x01⟩, c0, k0⟩
  have H1 : Hid (Cur W bc a len cap w1 ∧ Keep bc (w.alloc (.cells #[.int .i64 0, .int .i64 0, .int .i64 0, .int .i64 0] 38)) w1) := ⟨c0, k0⟩
  clear c0 k0
  go_wp2_with fail
  refine (drawBelow hc 60 (by omega) _ H1.out.1).mono ?_
  rintro e w2 ⟨⟨x1, rfl, x10, x11⟩, c1, k1⟩
  have H2 : Hid (Cur W bc a len cap w2 ∧ Keep bc (w.alloc (.cells #[.int .i64 0, .int .i64 0, .int .i64 0, .int .i64 0] 38)) w2) := ⟨c1, H1.out.2.trans k1⟩
  clear c1 k1 H1
  go_wp2_with fail
  refine (drawBelow hc 30 (by omega) _ H2.out.1).mono ?_
  rintro e w3 ⟨⟨x2, rfl, x20, x21⟩, c2, k2⟩
  have H3 : Hid (Cur W bc a len cap w3 ∧ Keep bc (w.alloc (.cells #[.int .i64 0, .int .i64 0, .int .i64 0, .int .i64 0] 38)) w3) := ⟨c2, H2.out.2.trans k2⟩
  clear c2 k2 H2
  have hs : w.heap.size < w3.heap.size := by have := H3.out.2.size; simp at *; omega
  go_upto_region 2 with fail
  have X : Hid (DrX 38 #[.int .i64 0, .int .i64 0, .int .i64 0, .int .i64 0] W bc a len cap w w.heap.size w3.heap.size #[.int .i64 x0, .int .i64 (1 + x1), .int .i64 0, .int .i64 x2] (w3.alloc (.cells #[.int .i64 x0, .int .i64 (1 + x1), .int .i64 0, .int .i64 x2] 38))) := by
    have kk := H3.out.2
    exact ⟨Boxed.new _ _ _, ((Boxed.new w #[.int .i64 0, .int .i64 0, .int .i64 0, .int .i64 0] 38).keep (by omega) kk).more _, H3.out.1.alloc _, (((Keep.refl _ w).alloc _).trans kk).alloc _, Nat.le_refl _, hs, hbc⟩
  generalize w3.alloc (.cells #[.int .i64 x0, .int .i64 (1 + x1), .int .i64 0, .int .i64 x2] 38) = wA at X ⊢
  generalize w3.heap.size = B at X hs ⊢
  obtain ⟨b0, hb0⟩ : ∃ z, z = x0 := ⟨_, rfl⟩
  obtain ⟨b1, hb1⟩ : ∃ z, z = (1 + x1) := ⟨_, rfl⟩
  obtain ⟨b3, hb3⟩ : ∃ z, z = x2 := ⟨_, rfl⟩
  rw [← hb0, ← hb1, ← hb3] at X ⊢
  have HB : Hid ((0 ≤ b0 ∧ b0 ≤ 7) ∧ (1 ≤ b1 ∧ b1 ≤ 60) ∧ (0 ≤ b3 ∧ b3 ≤ 29)) := by
    show _ ∧ _
    omega
  clear hb0 hb1 hb3 x00 x01 x10 x11 x20 x21
  have hb1' := HB.out.2.1
  have e1 : wA.cell? ⟨B, 1, none⟩ = some (.int .i64 b1) := X.out.rt.cell 1 rfl
  have k9 : IntKind.i64.wrap (b1 + 1) = b1 + 1 := by rw [IntKind.wrap_i64]; omega
  have DB := fun wx h => drawBelow (bc := bc) (cap := cap) hc (b1 + 1) (by omega) wx h
  have DB' : Hid _ := DB
  clear DB hb1'
  go_wp2_with fail
  refine (DB'.out _ X.out.cur).mono ?_
  rintro e wB ⟨⟨b2, rfl, b20, b21⟩, cB, kB⟩
  have XB : Hid (DrX 38 #[.int .i64 0, .int .i64 0, .int .i64 0, .int .i64 0] W bc a len cap w w.heap.size B #[.int .i64 b0, .int .i64 b1, .int .i64 0, .int .i64 b3] wB) := X.out.draw cB kB
  clear cB kB X e1 k9 DB'
  have e2 : wB.cell? ⟨B, 2, none⟩ = some _ := XB.out.rt.cell 2 rfl
  have i2 := XB.out.rt.ice 2
  go_upto_region 3 with fail
  have X := XB.out.put (cs' := #[.int .i64 b0, .int .i64 b1, .int .i64 b2, .int .i64 b3]) 2 (.int .i64 b2) rfl
  generalize wB.setCell ⟨B, 2, none⟩ (.int .i64 b2) = wA at X ⊢
  have X : Hid (DrX 38 #[.int .i64 0, .int .i64 0, .int .i64 0, .int .i64 0] W bc a len cap w w.heap.size B #[.int .i64 b0, .int .i64 b1, .int .i64 b2, .int .i64 b3] wA) := X
  clear XB e2 i2
  go_wp2_with fail
  have Hd : Hid ((-1 ≤ b0 ∧ b0 ≤ 1001) ∧ (0 ≤ b1 ∧ b1 ≤ 100001) ∧ (0 ≤ b2 ∧ b2 ≤ 100003) ∧ (-1 ≤ b3 ∧ b3 ≤ 1099511627777)) := by
    have h0 := HB.out
    show _ ∧ _
    omega
  clear HB b20 b21 hs
  refine (drawOnce hc 12 (by omega) _ X.out.cur).mono ?_
  rintro e wC ⟨⟨bo, rfl⟩, cC, kC⟩
  have XC : Hid (DrX 38 #[.int .i64 0, .int .i64 0, .int .i64 0, .int .i64 0] W bc a len cap w w.heap.size B #[.int .i64 b0, .int .i64 b1, .int .i64 b2, .int .i64 b3] wC) := X.out.draw cC kC
  clear cC kC X
  cases bo
  · go_wp2_with (first | (refine wpList_load_row rfl 38 (.tmp 3) rfl B rfl _ _ _ _ XC.out.rt Try.underlying38 rfl (by kernel_rfl) ?_) | (refine wpList_store_row rfl 38 (.tmp 2) (.tmp 54) rfl w.heap.size _ rfl rfl _ _ XC.out.res (by kernel_rfl) rfl (pzOnes _ _ _ _) ?_))
    exact XC.out.done Try.results56 rfl rfl Try.underlying38 (by kernel_rfl) ⟨⟨b0, b1, b2, b3⟩, rfl, Hd.out⟩
  · go_wp2_with fail
    refine (drawBelow hc 4 (by omega) _ XC.out.cur).mono ?_
    rintro e wD ⟨⟨q, rfl, q0, q1⟩, cD, kD⟩
    have XD : Hid (DrX 38 #[.int .i64 0, .int .i64 0, .int .i64 0, .int .i64 0] W bc a len cap w w.heap.size B #[.int .i64 b0, .int .i64 b1, .int .i64 b2, .int .i64 b3] wD) := XC.out.draw cD kD
    clear cD kD XC
    have hq : q = 0 ∨ q = 1 ∨ q = 2 ∨ q = 3 := by omega
    clear q0 q1
    rcases hq with rfl | rfl | rfl | rfl
    · go_wp2_with fail
      refine (drawBelow hc 4 (by omega) _ (XD.out.cur.alloc _)).mono ?_
      rintro e wt ⟨⟨y8, rfl, yy0, yy1⟩, ct, kt⟩
      obtain ⟨jt, rfl⟩ := Int.eq_ofNat_of_zero_le yy0
      have hj := tab [-1, 0, 1000, 1001] _ _ rfl XD.out.cur.ne kt jt (by simp; omega)
      have hz := tab_in [-1, 0, 1000, 1001] (-1) 1001 (by decide) jt (by simp; omega)
      have HT : Hid (DrX 38 #[.int .i64 0, .int .i64 0, .int .i64 0, .int .i64 0] W bc a len cap w w.heap.size B #[.int .i64 b0, .int .i64 b1, .int .i64 b2, .int .i64 b3] wt) := (XD.out.more _).draw ct kt
      clear ct kt XD
      generalize ([-1, 0, 1000, 1001] : List Int)[jt]?.getD 0 = z at hj hz
      have c1 : wt.cell? ⟨B, 0, none⟩ = some _ := HT.out.rt.cell 0 rfl
      have i1 := HT.out.rt.ice 0
      have Hz : Hid _ := hz
      clear hz
      go_upto_region 13 with fail
      clear c1 i1 hj
      have d1 := HT.out.put (cs' := #[.int .i64 z, .int .i64 b1, .int .i64 b2, .int .i64 b3]) 0 (.int .i64 z) rfl
      generalize wt.setCell ⟨B, 0, none⟩ (.int .i64 z) = wu at d1 ⊢
      have H8 : Hid (DrX 38 #[.int .i64 0, .int .i64 0, .int .i64 0, .int .i64 0] W bc a len cap w w.heap.size B #[.int .i64 z, .int .i64 b1, .int .i64 b2, .int .i64 b3] wu) := d1
      clear d1 HT
      go_wp2_with (first | (refine wpList_load_row rfl 38 (.tmp 3) rfl B rfl _ _ _ _ H8.out.rt Try.underlying38 rfl (by kernel_rfl) ?_) | (refine wpList_store_row rfl 38 (.tmp 2) (.tmp 54) rfl w.heap.size _ rfl rfl _ _ H8.out.res (by kernel_rfl) rfl (pzOnes _ _ _ _) ?_))
      exact H8.out.done Try.results56 rfl rfl Try.underlying38 (by kernel_rfl) ⟨⟨z, b1, b2, b3⟩, rfl, by have h1 := Hd.out; have h2 := Hz.out; show (-1 ≤ z ∧ z ≤ 1001) ∧ (0 ≤ b1 ∧ b1 ≤ 100001) ∧ (0 ≤ b2 ∧ b2 ≤ 100003) ∧ (-1 ≤ b3 ∧ b3 ≤ 1099511627777); omega⟩
    · go_wp2_with fail
      refine (drawBelow hc 3 (by omega) _ (XD.out.cur.alloc _)).mono ?_
      rintro e wt ⟨⟨y8, rfl, yy0, yy1⟩, ct, kt⟩
      obtain ⟨jt, rfl⟩ := Int.eq_ofNat_of_zero_le yy0
      have hj := tab [0, 100000, 100001] _ _ rfl XD.out.cur.ne kt jt (by simp; omega)
      have hz := tab_in [0, 100000, 100001] (0) 100001 (by decide) jt (by simp; omega)
      have HT : Hid (DrX 38 #[.int .i64 0, .int .i64 0, .int .i64 0, .int .i64 0] W bc a len cap w w.heap.size B #[.int .i64 b0, .int .i64 b1, .int .i64 b2, .int .i64 b3] wt) := (XD.out.more _).draw ct kt
      clear ct kt XD
      generalize ([0, 100000, 100001] : List Int)[jt]?.getD 0 = z at hj hz
      have c1 : wt.cell? ⟨B, 1, none⟩ = some _ := HT.out.rt.cell 1 rfl
      have i1 := HT.out.rt.ice 1
      have Hz : Hid _ := hz
      clear hz
      go_upto_region 13 with fail
      clear c1 i1 hj
      have d1 := HT.out.put (cs' := #[.int .i64 b0, .int .i64 z, .int .i64 b2, .int .i64 b3]) 1 (.int .i64 z) rfl
      generalize wt.setCell ⟨B, 1, none⟩ (.int .i64 z) = wu at d1 ⊢
      have H8 : Hid (DrX 38 #[.int .i64 0, .int .i64 0, .int .i64 0, .int .i64 0] W bc a len cap w w.heap.size B #[.int .i64 b0, .int .i64 z, .int .i64 b2, .int .i64 b3] wu) := d1
      clear d1 HT
      go_wp2_with (first | (refine wpList_load_row rfl 38 (.tmp 3) rfl B rfl _ _ _ _ H8.out.rt Try.underlying38 rfl (by kernel_rfl) ?_) | (refine wpList_store_row rfl 38 (.tmp 2) (.tmp 54) rfl w.heap.size _ rfl rfl _ _ H8.out.res (by kernel_rfl) rfl (pzOnes _ _ _ _) ?_))
      exact H8.out.done Try.results56 rfl rfl Try.underlying38 (by kernel_rfl) ⟨⟨b0, z, b2, b3⟩, rfl, by have h1 := Hd.out; have h2 := Hz.out; show (-1 ≤ b0 ∧ b0 ≤ 1001) ∧ (0 ≤ z ∧ z ≤ 100001) ∧ (0 ≤ b2 ∧ b2 ≤ 100003) ∧ (-1 ≤ b3 ∧ b3 ≤ 1099511627777); omega⟩
    · have Hw : Hid (∀ y, 0 ≤ y → y ≤ 2 → IntKind.i64.wrap (b1 + y) = b1 + y) := fun y y0 y1 => by have h1 := Hd.out; rw [IntKind.wrap_i64]; omega
      have Hb : Hid (0 ≤ b1 ∧ b1 ≤ 100001) := Hd.out.2.1
      go_wp2_with fail
      refine region_lists (G := Unit) (by kernel_rfl) (by kernel_rfl) (by kernel_rfl) (fun _ => 99) (fun (L : Nat → Bool) (_ : Unit) (x : World) => ∃ z, (DrX 38 #[.int .i64 0, .int .i64 0, .int .i64 0, .int .i64 0] W bc a len cap w w.heap.size B #[.int .i64 b0, .int .i64 b1, .int .i64 z, .int .i64 b3] x) ∧ (L 6 = true → b1 ≤ z ∧ z ≤ b1 + 2)) (fun i _ x _ x' => True) (fun i y x v => ([fun _ _ v => v = .pointer (some ⟨B, 1, none⟩), fun _ _ v => v = .int .i64 b1, fun _ _ v => v = .pointer (some ⟨bc, 0, none⟩), fun _ _ v => ∃ y : Int, v = .int .i64 y ∧ 0 ≤ y ∧ y ≤ 2, fun _ _ v => ∃ y : Int, v = .int .i64 (b1 + y) ∧ 0 ≤ y ∧ y ≤ 2, fun _ _ v => v = .pointer (some ⟨B, 2, none⟩), fun _ _ _ => True] : List (Unit → World → Value → Prop)).getD i (fun _ _ _ => True) y x v) ?hR () ?h0 ?step ?last
      case hR =>
        intro i j y y' x x' v hi hj hne hu h1 h2 hp hr
        have hj' : j < 7 := hj
        have hcases : j = 0 ∨ j = 1 ∨ j = 2 ∨ j = 3 ∨ j = 4 ∨ j = 5 ∨ j = 6 := by omega
        rcases hcases with rfl | rfl | rfl | rfl | rfl | rfl | rfl <;> exact hp
      case h0 => exact ⟨b2, XD.out.drew, fun h => by cases h⟩
      case step =>
        intro i o hi ho L a' y x hLi hwt hre hkp hI hp
        have s0 : a'.tmps.getD 0 undef = .pointer (some ⟨bc, 0, none⟩) := hkp.slot 0 (by kernel_rfl)
        have s3 : a'.tmps[3]?.getD undef = .pointer (some ⟨B, 0, none⟩) := by have h2 : a'.tmps.getD 3 undef = .pointer (some ⟨B, 0, none⟩) := hkp.slot 3 (by kernel_rfl); simpa using h2
        obtain ⟨z, hX, hz⟩ := hI
        have hi' : i < 7 := hi
        have hcases : i = 0 ∨ i = 1 ∨ i = 2 ∨ i = 3 ∨ i = 4 ∨ i = 5 ∨ i = 6 := by omega
        rcases hcases with rfl | rfl | rfl | rfl | rfl | rfl | rfl
        · cases ho
          refine ⟨wanted_none rfl, Oper.wp_mono (K := fun a'' w'' => a'' = a'.put (some 40) (.pointer (some ⟨B, 1, none⟩)) ∧ w'' = x) ?_ ?_⟩
          · rintro _ _ ⟨rfl, rfl⟩
            exact ⟨_, (), rfl, trivial, ⟨z, hX, hz⟩, fun u hu => hu (fun h => by cases h)⟩
          · unfold Oper.wp
            simp [go_sem, s3]
        · cases ho
          have q0 : a'.tmps[40]?.getD undef = .pointer (some ⟨B, 1, none⟩) := by have h2 : a'.tmps.getD 40 undef = .pointer (some ⟨B, 1, none⟩) := hp 0 (of_decide_eq_true (by kernel_rfl)) (.inr (by decide)); simpa using h2
          have hrd : x.cell? ⟨B, 1, none⟩ = some (.int .i64 b1) := hX.rt.cell 1 rfl
          refine ⟨wanted_none rfl, Oper.wp_mono (K := fun a'' w'' => a'' = a'.put (some 41) (.int .i64 b1) ∧ w'' = x) ?_ ?_⟩
          · rintro _ _ ⟨rfl, rfl⟩
            exact ⟨_, (), rfl, trivial, ⟨z, hX, hz⟩, fun u hu => hu (fun h => by cases h)⟩
          · unfold Oper.wp
            simp [go_sem, q0, hrd]
        · cases ho
          exact ⟨wanted_none rfl, op_move 0 rfl ⟨_, (), rfl, trivial, ⟨z, hX, hz⟩, fun u hu => (hu (fun h => by cases h)).trans s0⟩⟩
        · cases ho
          have q0 : a'.tmps[42]?.getD undef = .pointer (some ⟨bc, 0, none⟩) := by have h2 : a'.tmps.getD 42 undef = .pointer (some ⟨bc, 0, none⟩) := hp 2 (of_decide_eq_true (by kernel_rfl)) (.inr (by decide)); simpa using h2
          refine ⟨wanted_none rfl, op_callB (by simp [execOp, resolve, Deferred.ofValue, invoke, Act.eval, q0]) (drawFrom hc 0 2 (by omega) (by omega) (by omega) x hX.cur) ?_⟩
          rintro e x' ⟨⟨v, rfl, v0, v1⟩, ci, ki⟩
          exact ⟨_, rfl, _, (), rfl, trivial, ⟨z, hX.draw ci ki, hz⟩, fun u hu => ⟨v, hu (fun h => by cases h), v0, v1⟩⟩
        · cases ho
          have q0 : a'.tmps[41]?.getD undef = .int .i64 b1 := by have h2 : a'.tmps.getD 41 undef = .int .i64 b1 := hp 1 (of_decide_eq_true (by kernel_rfl)) (.inr (by decide)); simpa using h2
          obtain ⟨v, e1, v0, v1⟩ := hp 3 (of_decide_eq_true (by kernel_rfl)) (.inr (by decide))
          have q1 : a'.tmps[43]?.getD undef = .int .i64 v := by have h2 : a'.tmps.getD 43 undef = .int .i64 v := e1; simpa using h2
          have hw := Hw.out v v0 v1
          refine ⟨wanted_none rfl, Oper.wp_mono (K := fun a'' w'' => a'' = a'.put (some 44) (.int .i64 (b1 + v)) ∧ w'' = x) ?_ ?_⟩
          · rintro _ _ ⟨rfl, rfl⟩
            exact ⟨_, (), rfl, trivial, ⟨z, hX, hz⟩, fun u hu => ⟨v, hu (fun h => by cases h), v0, v1⟩⟩
          · unfold Oper.wp
            simp [go_sem, q0, q1, hw]
        · cases ho
          refine ⟨wanted_none rfl, Oper.wp_mono (K := fun a'' w'' => a'' = a'.put (some 45) (.pointer (some ⟨B, 2, none⟩)) ∧ w'' = x) ?_ ?_⟩
          · rintro _ _ ⟨rfl, rfl⟩
            exact ⟨_, (), rfl, trivial, ⟨z, hX, hz⟩, fun u hu => hu (fun h => by cases h)⟩
          · unfold Oper.wp
            simp [go_sem, s3]
        · cases ho
          obtain ⟨v, e1, v0, v1⟩ := hp 4 (of_decide_eq_true (by kernel_rfl)) (.inr (by decide))
          have q1 : a'.tmps[44]?.getD undef = .int .i64 (b1 + v) := by have h2 : a'.tmps.getD 44 undef = .int .i64 (b1 + v) := e1; simpa using h2
          have q0 : a'.tmps[45]?.getD undef = .pointer (some ⟨B, 2, none⟩) := by have h2 : a'.tmps.getD 45 undef = .pointer (some ⟨B, 2, none⟩) := hp 5 (of_decide_eq_true (by kernel_rfl)) (.inr (by decide)); simpa using h2
          have c2 : x.cell? ⟨B, 2, none⟩ = some (.int .i64 z) := hX.rt.cell 2 rfl
          have i2 := hX.rt.ice 2
          refine ⟨wanted_none rfl, Oper.wp_mono (K := fun a'' w'' => a'' = a' ∧ w'' = x.setCell ⟨B, 2, none⟩ (.int .i64 (b1 + v))) ?_ ?_⟩
          · rintro _ _ ⟨rfl, rfl⟩
            exact ⟨undef, (), rfl, trivial, ⟨b1 + v, hX.put 2 _ rfl, fun _ => by omega⟩, fun _ _ => trivial⟩
          · unfold Oper.wp
            simp [go_sem, q0, q1, c2, i2]
      case last =>
        intro L a' y x hall hkp hI hp
        obtain ⟨z, hX, hz⟩ := hI
        have hz := hz (hall 6 (by decide))
        have H8 : Hid (DrX 38 #[.int .i64 0, .int .i64 0, .int .i64 0, .int .i64 0] W bc a len cap w w.heap.size B #[.int .i64 b0, .int .i64 b1, .int .i64 z, .int .i64 b3] x) := hX
        have s2 : a'.tmps.getD 2 undef = .pointer (some ⟨w.heap.size, 0, none⟩) := hkp.slot 2 (by kernel_rfl)
        have s3 : a'.tmps.getD 3 undef = .pointer (some ⟨B, 0, none⟩) := hkp.slot 3 (by kernel_rfl)
        have hd : a'.defers = [] := hkp.defers
        have hsz : a'.tmps.size = 55 := hkp.size
        have S : Hid ((a'.put (some 54) (.agg #[.int .i64 b0, .int .i64 b1, .int .i64 z, .int .i64 b3])).tmps.getD 54 undef = .agg #[.int .i64 b0, .int .i64 b1, .int .i64 z, .int .i64 b3] ∧ (a'.put (some 54) (.agg #[.int .i64 b0, .int .i64 b1, .int .i64 z, .int .i64 b3])).tmps.getD 2 undef = .pointer (some ⟨w.heap.size, 0, none⟩) ∧ (a'.put (some 54) (.agg #[.int .i64 b0, .int .i64 b1, .int .i64 z, .int .i64 b3])).defers = []) := by
          refine ⟨?_, ?_, hd⟩
          · rw [put_getD _ _ _ _ (by omega), if_pos rfl]
          · rw [put_getD _ _ _ _ (by omega), if_neg (by decide)]
            exact s2
        have Hz : Hid (b1 ≤ z ∧ z ≤ b1 + 2) := hz
        clear hp hkp hall hz hX s2 hd hsz
        go_wp2_with (first | (refine wpList_load_row rfl 38 (.tmp 3) rfl B s3 _ _ _ _ H8.out.rt Try.underlying38 rfl (by kernel_rfl) ?_) | (refine wpList_store_row rfl 38 (.tmp 2) (.tmp 54) rfl w.heap.size _ S.out.2.1 S.out.1 _ _ H8.out.res (by kernel_rfl) rfl (pzOnes _ _ _ _) ?_))
        exact H8.out.done Try.results56 S.out.2.1 S.out.2.2 Try.underlying38 (by kernel_rfl) ⟨⟨b0, b1, z, b3⟩, rfl, by have h1 := Hd.out; have h2 := Hz.out; show (-1 ≤ b0 ∧ b0 ≤ 1001) ∧ (0 ≤ b1 ∧ b1 ≤ 100001) ∧ (0 ≤ z ∧ z ≤ 100003) ∧ (-1 ≤ b3 ∧ b3 ≤ 1099511627777); omega⟩
    · go_wp2_with fail
      refine (drawBelow hc 3 (by omega) _ (XD.out.cur.alloc _)).mono ?_
      rintro e wt ⟨⟨y8, rfl, yy0, yy1⟩, ct, kt⟩
      obtain ⟨jt, rfl⟩ := Int.eq_ofNat_of_zero_le yy0
      have hj := tab [-1, 1099511627776, 1099511627777] _ _ rfl XD.out.cur.ne kt jt (by simp; omega)
      have hz := tab_in [-1, 1099511627776, 1099511627777] (-1) 1099511627777 (by decide) jt (by simp; omega)
      have HT : Hid (DrX 38 #[.int .i64 0, .int .i64 0, .int .i64 0, .int .i64 0] W bc a len cap w w.heap.size B #[.int .i64 b0, .int .i64 b1, .int .i64 b2, .int .i64 b3] wt) := (XD.out.more _).draw ct kt
      clear ct kt XD
      generalize ([-1, 1099511627776, 1099511627777] : List Int)[jt]?.getD 0 = z at hj hz
      have c1 : wt.cell? ⟨B, 3, none⟩ = some _ := HT.out.rt.cell 3 rfl
      have i1 := HT.out.rt.ice 3
      have Hz : Hid _ := hz
      clear hz
      go_upto_region 13 with fail
      clear c1 i1 hj
      have d1 := HT.out.put (cs' := #[.int .i64 b0, .int .i64 b1, .int .i64 b2, .int .i64 z]) 3 (.int .i64 z) rfl
      generalize wt.setCell ⟨B, 3, none⟩ (.int .i64 z) = wu at d1 ⊢
      have H8 : Hid (DrX 38 #[.int .i64 0, .int .i64 0, .int .i64 0, .int .i64 0] W bc a len cap w w.heap.size B #[.int .i64 b0, .int .i64 b1, .int .i64 b2, .int .i64 z] wu) := d1
      clear d1 HT
      go_wp2_with (first | (refine wpList_load_row rfl 38 (.tmp 3) rfl B rfl _ _ _ _ H8.out.rt Try.underlying38 rfl (by kernel_rfl) ?_) | (refine wpList_store_row rfl 38 (.tmp 2) (.tmp 54) rfl w.heap.size _ rfl rfl _ _ H8.out.res (by kernel_rfl) rfl (pzOnes _ _ _ _) ?_))
      exact H8.out.done Try.results56 rfl rfl Try.underlying38 (by kernel_rfl) ⟨⟨b0, b1, b2, z⟩, rfl, by have h1 := Hd.out; have h2 := Hz.out; show (-1 ≤ b0 ∧ b0 ≤ 1001) ∧ (0 ≤ b1 ∧ b1 ≤ 100001) ∧ (0 ≤ b2 ∧ b2 ≤ 100003) ∧ (-1 ≤ z ∧ z ≤ 1099511627777); omega⟩

end Go.Proofs.Ytfdapmchpikfiaa
