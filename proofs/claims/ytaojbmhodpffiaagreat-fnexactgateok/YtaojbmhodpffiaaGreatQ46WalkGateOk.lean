import Derived.Test.YtaojbmhodpffiaaGreatQ39GtPartF
import Derived.Test.YtaojbmhodpffiaaGreatQ42FwFn
import Derived.Test.YtaojbmhodpffiaaGreatQ43RwOkI
import Derived.Test.YtaojbmhodpffiaaGreatQ14GtSpot
import Derived.Test.YtaojbmhodpffiaaGreatQ28GtZero
import Derived.Test.YtaojbmhodpffiaaGreatQ19QuietSeq
import Derived.BigQuiet
import Derived.Test.YtaojbmhodpffiaaGreatQ44GtPartI
import Derived.Test.YtaojbmhodpffiaaGreatQ45GtKeptI
import Derived.Test.YtaojbmhodpffiaaGreatQ9NumUp
import Derived.Test.YtaojbmhodpffiaaGreatQ36LoadG
import Derived.Test.YtaojbmhodpffiaaGreatQ15StepRow
import Derived.Deep.DeepCutAuto
import Derived.Test.YtaojbmhodpffiaaGreatQ38LawGateOk
/-
  The walk of the program's leavesOk. By the verifier.
-/
namespace Go.Proofs.YtaojbmhodpffiaaGreat
open Go.RowKit

theorem lv_hit {ls : List Int} {n k : Nat} (h : k < ls.length) (g : lvB ls n k = false) : (List.range ls.length).all (lvB ls n) = false := by
  rw [List.all_eq_false]
  exact ⟨k, List.mem_range.2 h, by rw [g]; decide⟩
theorem lv_succ (ls : List Int) (n k : Nat) : (List.range (k + 1)).all (lvB ls n) = ((List.range k).all (lvB ls n) && lvB ls n k) := by
  simp [List.range_succ]

set_option maxHeartbeats 3200000 in
set_option maxRecDepth 100000 in
theorem implLeavesOk (ls : List Int) (a : Option Addr) (c n : Nat) (w : World) (hn : n ≤ 1048576) (hT : ls.length ≤ 1048576) (h : Hid (IntsAt w a ls)) :
    Calls Tryz.prog 46 #[.slice a ls.length c, .int .i64 (n : Int)] w fun e w' => e = .returned (.bool (lvOk ls n)) ∧ Below w.heap.size w w' := by
  have Hv : Hid (lvOk ls n = (inB 1 8 (ls.length : Int) && (List.range ls.length).all (lvB ls n))) := by
    show lvOk ls n = _
    unfold lvOk
    rw [← Bool.and_assoc]
    congr 1
    rw [Bool.eq_iff_iff]
    simp only [Bool.and_eq_true, decide_eq_true_eq, inB_true]
    omega
  have Hh : Hid (∀ k, k < ls.length → lvB ls n k = false → (List.range ls.length).all (lvB ls n) = false) := fun k hk g => lv_hit hk g
  have Hs : Hid (∀ k, (List.range (k + 1)).all (lvB ls n) = ((List.range k).all (lvB ls n) && lvB ls n k)) := fun k => lv_succ ls n k
  have Hb : Hid (∀ k, lvB ls n k = (inB 0 ((n : Int) - 1) (ls[k]?.getD 0) && (decide (k = 0) || decide (ls[k - 1]?.getD 0 < ls[k]?.getD 0)))) := fun k => by
    unfold lvB
    rw [← Bool.and_assoc]
    congr 1
    rw [Bool.eq_iff_iff]
    simp only [Bool.and_eq_true, decide_eq_true_eq, inB_true]
    omega
  obtain ⟨len, hlen⟩ : ∃ m, ls.length = m := ⟨_, rfl⟩
  have Hlen : Hid (ls.length = len) := hlen
  rw [hlen] at hT Hv Hh ⊢
  clear hlen
  have F := fun B w hB => implFromOne 8 (len : Int) B w hB
  have AP := fun p w => implPlace n p w hn
  generalize lvOk ls n = R at Hv ⊢
  generalize inB 1 8 (len : Int) = ok at F Hv
  have F' : Hid _ := F
  have AP' : Hid _ := AP
  clear F AP
  have N1 : Hid (Below w.heap.size w (w.alloc (.cells #[.int .i64 (len : Int)] 2))) := (Below.refl _ _).alloc (Nat.le_refl _) _
  go_enter Tryz.func46, Tryz.ntmps46
  go_wp2_with fail
  refine (F'.out _ w rfl).mono ?_
  rintro e w1 ⟨rfl, hw1⟩
  have B1 : Hid (Below w.heap.size w w1) := by rw [hw1]; exact N1.out
  clear hw1 F' N1
  cases ok
  · have e1 : R = false := by rw [Hv.out]; rfl
    subst e1
    go_wp2
    go_ret
    exact ⟨rfl, B1.out⟩
  have e1 : R = (List.range len).all (lvB ls n) := by rw [Hv.out, Bool.true_and]
  have HR : Hid _ := e1
  clear e1 Hv
  go_wp2
  go_loopw [5, 6, 14] (fun _ _ i wr => ∃ k : Nat, k ≤ len ∧ i = .int .i64 k ∧ Hid ((List.range k).all (lvB ls n) = true) ∧ Hid (Below w.heap.size w wr)) (fun _ _ i _ => len - (intOf i).toNat)
  case atStart => exact ⟨0, Nat.zero_le _, rfl, rfl, B1.out⟩
  case round =>
    obtain ⟨k, hk, rfl, hg, HB⟩ := hrel
    by_cases hlt : k < len
    · have hlt' : (k : Int) < (len : Int) := by omega
      have Rr : Hid (IntsAt wr a ls) := h.out.below HB.out
      obtain ⟨b1, o1, ha1, hb1, c0⟩ := Rr.out k (by rw [Hlen.out]; exact hlt)
      subst ha1
      have AP := fun w => AP'.out (ls[k]?.getD 0) w
      have hb := Hb.out k
      have hh := Hh.out k hlt
      have hs := Hs.out k
      rw [hg.out, Bool.true_and] at hs
      have P1 : Hid (∀ j, j < k → ∀ w2, Below wr.heap.size wr w2 → w2.cell? ⟨b1, o1 + j, none⟩ = some (.int .i64 (ls[j]?.getD 0))) := fun j hj w2 q => by
        obtain ⟨b2, o2, ha2, hb2, d0⟩ := (Rr.out.below q) j (by rw [Hlen.out]; omega)
        cases ha2
        exact d0
      generalize lvB ls n k = lb at hb hh hs
      have HS : Hid _ := hs
      have HH : Hid _ := hh
      have HP : Hid (∀ j, k = j + 1 → ls[k - 1]?.getD 0 = ls[j]?.getD 0) := fun j e => by rw [e]; rfl
      generalize ls[k - 1]?.getD 0 = y at hb HP
      generalize ls[k]?.getD 0 = x at c0 AP hb
      generalize inB 0 ((n : Int) - 1) x = pl at AP hb
      have AP2 : Hid _ := AP
      have HB2 : Hid _ := hb
      clear hb hh hs AP
      have Bx : Hid (Below wr.heap.size wr (wr.alloc (.cells #[.int .i64 x] 2))) := (Below.refl _ _).alloc (Nat.le_refl _) _
      go_wp2_with fail
      refine (AP2.out _).mono ?_
      rintro e w2 ⟨rfl, hw2⟩
      have B2 : Hid (Below wr.heap.size wr w2) := by rw [hw2]; exact Bx.out
      clear hw2 AP2 Bx
      cases pl
      · have e1 : R = false := by rw [HR.out]; exact HH.out (by rw [HB2.out]; rfl)
        subst e1
        have B3 : Hid (Below w.heap.size w w2) := HB.out.trans (B2.out.mono HB.out.size)
        go_wp2
        go_ret
        exact ⟨rfl, B3.out⟩
      by_cases hk0 : k = 0
      · subst hk0
        have hg2 : Hid ((List.range (0 + 1)).all (lvB ls n) = true) := by show _ = true; rw [HS.out, HB2.out]; rfl
        have B3 : Hid (Below w.heap.size w w2) := HB.out.trans (B2.out.mono HB.out.size)
        clear HS HB2 HH HP P1 B2
        go_wp2
        go_roundw
        case rel => exact ⟨1, by omega, by go_num, hg2, B3⟩
        case measure => simp [intOf]; omega
      obtain ⟨j, rfl⟩ : ∃ j, k = j + 1 := ⟨k - 1, by omega⟩
      have d0 := P1.out j (by omega) w2 B2.out
      rw [← HP.out j rfl] at d0
      have hb12 : b1 < w2.heap.size := Nat.lt_of_lt_of_le hb1 B2.out.size
      have B3 : Hid (Below w.heap.size w w2) := HB.out.trans (B2.out.mono HB.out.size)
      have hj0 : (0 : Int) ≤ (j : Int) := by omega
      have hjl : (j : Int) < (len : Int) := by omega
      have hj1 : (0 : Int) < (j : Int) + 1 := by omega
      by_cases hL : x ≤ y
      · have e1 : R = false := by rw [HR.out]; exact HH.out (by rw [HB2.out, decide_eq_false (by omega), decide_eq_false (by omega)]; rfl)
        subst e1
        clear HS HB2 HH HP P1 B2
        go_wp2
        go_ret
        exact ⟨rfl, B3.out⟩
      · have hg2 : Hid ((List.range (j + 1 + 1)).all (lvB ls n) = true) := by show _ = true; rw [HS.out, HB2.out, decide_eq_true (show y < x by omega)]; simp
        clear HS HB2 HH HP P1 B2
        go_wp2
        go_roundw
        case rel => exact ⟨j + 1 + 1, by omega, by go_num, hg2, B3⟩
        case measure => simp [intOf]; omega
    · obtain rfl : k = len := by omega
      have e1 : R = true := by rw [HR.out]; exact hg.out
      subst e1
      go_wp2
      go_ret
      exact ⟨rfl, HB.out⟩
end Go.Proofs.YtaojbmhodpffiaaGreat

/-
  The walks of slices.IndexFunc and slices.ContainsFunc on lists of items. By the verifier.
-/
namespace Go.Proofs.YtaojbmhodpffiaaGreat
open Go.RowKit Go.Shelf

/-- A function that tells yes or no of a list, as long as all that lay lies. -/
structure IzTells (W0 : World) (g : FuncId) (fs cb : Array Value) (p : List It → Bool) : Prop where
  enters : Enters Tryz.prog g
  tells : ∀ (W : World) (ak : Option Addr) (ck : Nat) (l : List It), Below W0.heap.size W0 W → l.length ≤ 1048576 → ItsAt W ak l → Calls Tryz.prog g (fs ++ #[.slice ak l.length ck] ++ cb) W fun e w' => e = .returned (.bool (p l)) ∧ Below W.heap.size W w'

set_option maxHeartbeats 1600000 in
set_option maxRecDepth 100000 in
theorem implIndexZ (a : Option Addr) (cap : Nat) (l : List (List It)) (g : FuncId) (fs cb : Array Value) (p : List It → Bool) (w : World) (hT : l.length ≤ 1048576) (hin : ∀ k, k < l.length → (izAt l k).length ≤ 1048576) (h : Hid (IzAt w a l)) (ht : Hid (IzTells w g fs cb p)) :
    Calls Tryz.prog 152 #[.slice a l.length cap, .func (.func g) fs cb] w fun e w' => e = .returned (.int .i64 (if l.findIdx p < l.length then (l.findIdx p : Int) else -1)) ∧ Below w.heap.size w w' := by
  have eg : ∀ args w, (callFunc g args).run Tryz.prog w = .ok (.enter g args) w := ht.out.enters
  have Hin : Hid (∀ k, k < l.length → (izAt l k).length ≤ 1048576) := hin
  obtain ⟨len, hlen⟩ : ∃ n, l.length = n := ⟨_, rfl⟩
  have Hlen : Hid (l.length = len) := hlen
  obtain ⟨N, hN⟩ : ∃ N, l.findIdx p = N := ⟨_, rfl⟩
  have HN : Hid (l.findIdx p = N) := hN
  have hNl : N ≤ len := by rw [← hN, ← hlen]; exact List.findIdx_le_length
  rw [hlen] at hT ⊢
  rw [hN]
  clear hlen hN hin
  go_enter Tryz.func152, Tryz.ntmps152
  go_wp2
  go_loopw [8] (fun i wr => ∃ k : Nat, k ≤ N ∧ i = .int .i64 k ∧ Hid (Below w.heap.size w wr)) (fun i _ => len - (intOf i).toNat)
  case atStart => exact ⟨0, Nat.zero_le _, rfl, Below.refl _ _⟩
  case round =>
    obtain ⟨k, hk, rfl, H1⟩ := hrel
    by_cases hlt : k < len
    · have hkl : k < l.length := by rw [Hlen.out]; exact hlt
      obtain ⟨b1, o1, ak, ck, ha1, hb1, hc, hr, -⟩ := (h.out.below H1.out) k hkl
      subst ha1
      have HC := ht.out.tells wr ak ck (izAt l k) H1.out (Hin.out k hkl) hr
      have hlt' : (k : Int) < (len : Int) := by omega
      by_cases hkN : k = N
      · have hp : p (izAt l k) = true := by
          rw [izAt_lt hkl]
          have := List.findIdx_getElem (p := p) (xs := l) (w := by rw [HN.out, Hlen.out, ← hkN]; exact hlt)
          simpa only [HN.out, ← hkN] using this
        rw [hp] at HC
        clear hp hr hkl
        generalize (izAt l k).length = n at hc HC
        subst hkN
        go_wp2_with fail
        refine HC.mono ?_
        rintro e w' ⟨rfl, hb'⟩
        have B2 : Hid (Below w.heap.size w w') := H1.out.trans (hb'.mono H1.out.size)
        clear hb' H1 HC hc
        go_wp2
        go_ret
        exact ⟨by first | rfl | (rw [if_pos hlt]; rfl), B2.out⟩
      · have hp : p (izAt l k) = false := by
          rw [izAt_lt hkl]
          have := List.not_of_lt_findIdx (p := p) (xs := l) (i := k) (by rw [HN.out]; omega)
          simpa using this
        rw [hp] at HC
        clear hp hr hkl
        generalize (izAt l k).length = n at hc HC
        go_wp2_with fail
        refine HC.mono ?_
        rintro e w' ⟨rfl, hb'⟩
        have B2 : Hid (Below w.heap.size w w') := H1.out.trans (hb'.mono H1.out.size)
        clear hb' H1 HC hc
        go_wp2
        go_roundw
        case rel => exact ⟨k + 1, by omega, by go_num, B2⟩
        case measure => simp [intOf]; omega
    · obtain rfl : k = len := by omega
      obtain rfl : k = N := by omega
      go_wp2
      go_ret
      exact ⟨by first | rfl | (rw [if_neg (Nat.lt_irrefl _)]; rfl), H1.out⟩

set_option maxHeartbeats 1600000 in
theorem implContainsZ (a : Option Addr) (cap : Nat) (l : List (List It)) (g : FuncId) (fs cb : Array Value) (p : List It → Bool) (w : World) (hT : l.length ≤ 1048576) (hin : ∀ k, k < l.length → (izAt l k).length ≤ 1048576) (h : Hid (IzAt w a l)) (ht : Hid (IzTells w g fs cb p)) :
    Calls Tryz.prog 107 #[.slice a l.length cap, .func (.func g) fs cb] w fun e w' => e = .returned (.bool (l.any p)) ∧ Below w.heap.size w w' := by
  have I := fun (_ : Nat) => implIndexZ a cap l g fs cb p w hT hin h ht
  have Ha : Hid (decide (l.findIdx p < l.length) = l.any p) := any_idxT l p
  generalize l.any p = b at Ha ⊢
  generalize l.findIdx p = N at I Ha
  generalize l.length = len at I Ha ⊢
  have I' : Hid _ := I
  clear I hT hin h ht
  go_enter Tryz.func107, Tryz.ntmps107
  go_wp2_with fail
  refine (I'.out 0).mono ?_
  rintro e w' ⟨rfl, hb⟩
  have B2 : Hid (Below w.heap.size w w') := hb
  clear hb I'
  by_cases hk : N < len
  · rw [if_pos hk]
    have hp : (0 : Int) ≤ (N : Int) := by omega
    go_wp2
    go_ret
    exact ⟨ret_bool (by rw [← Ha.out, decide_eq_true hk]), B2.out⟩
  · rw [if_neg hk]
    go_wp2
    go_ret
    exact ⟨ret_bool (by rw [← Ha.out, decide_eq_false hk]), B2.out⟩
end Go.Proofs.YtaojbmhodpffiaaGreat

/-
  The walk of the program's nextOk. By the verifier.
-/
namespace Go.Proofs.YtaojbmhodpffiaaGreat
open Go.RowKit Go.Shelf

set_option maxHeartbeats 1600000 in
set_option maxRecDepth 100000 in
theorem implNextA (g : Gt) (x : Ga) (r : It) (B : Nat) (w : World) (hB : Hid (Boxed w B (g.cells x) 51)) :
    Calls Tryz.prog 110 #[r.val, .pointer (some ⟨B, 0, none⟩)] w fun e w' => e = .returned (.bool (decide (g.next ≤ r.id))) ∧ Below w.heap.size w w' := by
  obtain ⟨r1, r2, r3⟩ := r
  simp only [It.val]
  have c0 : w.cell? ⟨B, 12, none⟩ = some (.int .i64 g.next) := hB.out.cell 12 rfl
  have hl : B < w.heap.size := hB.out.under
  have hne : ¬ w.heap.size = B := by omega
  have hne2 : ¬ B = w.heap.size := by omega
  have H : Hid (Below w.heap.size w (w.alloc (.cells #[.int .i64 r1, .int .i64 r2, .int .i64 r3] 88))) := (Below.refl _ _).alloc (Nat.le_refl _) _
  generalize g.next = y at c0 ⊢
  clear hB
  go_enter Tryz.func110, Tryz.ntmps110
  go_wp2
  go_ret
  exact ⟨rfl, H.out⟩

set_option maxHeartbeats 1600000 in
theorem implNextL (g : Gt) (x : Ga) (ak : Option Addr) (ck : Nat) (l : List It) (B : Nat) (w : World) (hT : l.length ≤ 1048576) (h : ItsAt w ak l) (hB : Boxed w B (g.cells x) 51) :
    Calls Tryz.prog 108 #[.slice ak l.length ck, .pointer (some ⟨B, 0, none⟩)] w fun e w' => e = .returned (.bool (l.any fun r => decide (g.next ≤ r.id))) ∧ Below w.heap.size w w' := by
  have C := fun (_ : Nat) => implContainsT ak ck l 110 #[] #[.pointer (some ⟨B, 0, none⟩)] (fun k => k = B) (fun _ => True) (fun r => decide (g.next ≤ r.id)) w hT h (fun _ _ => trivial) ⟨enters_of Tryz.func110 (by kernel_rfl) rfl, fun k hk => by rw [hk]; exact hB.under, fun W r _ hW => implNextA g x r B W ((hW B rfl).trans hB)⟩
  generalize (l.any fun r => decide (g.next ≤ r.id)) = z at C ⊢
  generalize l.length = n at C ⊢
  have hmf : ∀ (fn : Fn) (first cap : Array Value) (w : World), (Instr.makeFunc fn first cap).run Tryz.prog w = .ok (.func fn first cap) w := fun _ _ _ _ => rfl
  have C' : Hid _ := C
  clear C h hB hT
  go_enter Tryz.func108, Tryz.ntmps108
  go_wp2_with fail
  refine (C'.out 0).mono ?_
  rintro e w' ⟨rfl, hb⟩
  have B2 : Hid (Below w.heap.size w w') := hb
  clear hb C'
  go_wp2
  go_ret
  exact ⟨rfl, B2.out⟩

set_option maxHeartbeats 1600000 in
set_option maxRecDepth 100000 in
theorem implNext (g : Gt) (x : Ga) (w : World) (hB : g.big ≤ 1048576) (h : Hid (GtV w x g)) :
    Calls Tryz.prog 48 #[g.val x] w fun e w' => e = .returned (.bool g.nextB) ∧ Below w.heap.size w w' := by
  obtain ⟨-, -, -, -, s5, -, -⟩ := Gt.small hB
  obtain ⟨sT, -, sin⟩ := Rw.small s5
  have C : Hid (∀ (B : Nat) (W : World), IzAt W x.a5 g.rows.lists → Boxed W B (g.cells x) 51 → Calls Tryz.prog 107 #[.slice x.a5 g.rows.lists.length x.c5, .func (.func 108) #[] #[.pointer (some ⟨B, 0, none⟩)]] W fun e w' => e = .returned (.bool (g.rows.lists.any fun l => l.any fun i => decide (g.next ≤ i.id))) ∧ Below W.heap.size W w') := fun B W h1 h2 => implContainsZ x.a5 x.c5 g.rows.lists 108 #[] #[.pointer (some ⟨B, 0, none⟩)] (fun l => l.any fun i => decide (g.next ≤ i.id)) W sT sin h1 ⟨enters_of Tryz.func108 (by kernel_rfl) rfl, fun W2 ak ck l hW hl hr => implNextL g x ak ck l B W2 hl hr (h2.below h2.under hW)⟩
  have F := fun B w hB => implFromOne 1000000 g.next B w hB
  have Iz : Hid (IzAt w x.a5 g.rows.lists) := h.out.rows.spot
  have Hv : Hid (g.nextB = (inB 1 1000000 g.next && !(g.rows.lists.any fun l => l.any fun i => decide (g.next ≤ i.id)))) := rfl
  generalize g.nextB = R at Hv ⊢
  generalize (g.rows.lists.any fun l => l.any fun i => decide (g.next ≤ i.id)) = an at C Hv
  generalize inB 1 1000000 g.next = ib at F Hv
  obtain ⟨W0, hW⟩ : ∃ W, W = w.alloc (.cells (g.cells x) 51) := ⟨_, rfl⟩
  have X0 : Hid (Boxed W0 w.heap.size (g.cells x) 51 ∧ Below w.heap.size w W0 ∧ IzAt W0 x.a5 g.rows.lists) := by
    rw [hW]
    exact ⟨Boxed.new _ _ _, (Below.refl _ _).alloc (Nat.le_refl _) _, Iz.out.alloc _⟩
  have HW : Hid (W0 = _) := hW
  have Cx : Hid (∀ W B, Boxed W B (g.cells x) 51 → W.cell? ⟨B, 12, none⟩ = some (.int .i64 g.next) ∧ W.cell? ⟨B, 8, none⟩ = some (.slice x.a5 g.rows.lists.length x.c5)) := fun W B hh => ⟨hh.cell 12 rfl, hh.cell 8 rfl⟩
  have F' : Hid _ := F
  clear F hW h hB Iz sin
  unfold Gt.val
  generalize g.cells x = cs at C X0 HW Cx ⊢
  generalize g.next = nx at F' Cx
  generalize g.rows.lists.length = n5 at C Cx sT
  have hmf : ∀ (fn : Fn) (first cap : Array Value) (w : World), (Instr.makeFunc fn first cap).run Tryz.prog w = .ok (.func fn first cap) w := fun _ _ _ _ => rfl
  go_enter Tryz.func48, Tryz.ntmps48
  go_upto_region 1 with fail
  rw [← HW.out]
  clear HW
  obtain ⟨c12, c8⟩ := Cx.out _ _ X0.out.1
  have hu := X0.out.1.under
  have N1 : Hid (Below W0.heap.size W0 (W0.alloc (.cells #[.int .i64 nx] 2))) := (Below.refl _ _).alloc (Nat.le_refl _) _
  cases ib
  · have e1 : R = false := by rw [Hv.out]; rfl
    subst e1
    go_wp2_with fail
    refine (F'.out _ W0 rfl).mono ?_
    rintro e w1 ⟨rfl, hw1⟩
    have B1 : Hid (Below w.heap.size w w1) := by rw [hw1]; exact X0.out.2.1.trans (N1.out.mono X0.out.2.1.size)
    clear hw1 F' N1
    go_wp2
    go_ret
    exact ⟨rfl, B1.out⟩
  have e1 : R = !an := by rw [Hv.out, Bool.true_and]
  subst e1
  go_wp2_with fail
  refine (F'.out _ W0 rfl).mono ?_
  rintro e w1 ⟨rfl, hw1⟩
  have b1 : Below W0.heap.size W0 w1 := by rw [hw1]; exact N1.out
  have X1 : Hid (Boxed w1 w.heap.size cs 51 ∧ Below w.heap.size w w1 ∧ IzAt w1 x.a5 g.rows.lists) := ⟨X0.out.1.below X0.out.1.under b1, X0.out.2.1.trans (b1.mono X0.out.2.1.size), X0.out.2.2.below b1⟩
  obtain ⟨d12, d8⟩ := Cx.out _ _ X1.out.1
  clear hw1 F' N1 b1 X0 c12 c8 hu
  go_wp2_with fail
  refine (C.out _ _ X1.out.2.2 X1.out.1).mono ?_
  rintro e w2 ⟨rfl, q⟩
  have B2 : Hid (Below w.heap.size w w2) := X1.out.2.1.trans (q.mono X1.out.2.1.size)
  clear q C X1 d12 d8
  go_wp2
  go_ret
  exact ⟨rfl, B2.out⟩
end Go.Proofs.YtaojbmhodpffiaaGreat

/-
  The walk of the program's GateOk. By the verifier, by program.
-/
namespace Go.Proofs.YtaojbmhodpffiaaGreat
open Go.RowKit Go.Shelf

set_option maxHeartbeats 6400000 in
set_option maxRecDepth 100000 in
theorem implGateOk (g : Gt) (x : Ga) (w : World) (hB : g.big ≤ 1048576) (h : Hid (GtV w x g)) :
    Calls Tryz.prog 9 #[g.val x] w fun e w' => e = .returned (.bool g.ok) ∧ Below w.heap.size w w' := by
  obtain ⟨s1, s2, s3, s4, s5, s6, s7⟩ := Gt.small hB
  have A1 := fun w (h : GtV w x g) => implParts g x w hB h
  have A2 := fun w (h : GtV w x g) => implLeavesOk g.leaves x.a4 x.c4 g.tree.length w s3 s4 h.leaves.spot'
  have A3 := fun w (h : GtV w x g) => implKept g x w hB h
  have A4 := fun w (h : GtV w x g) => implNext g x w hB h
  have A5 := fun w B hB => implUpTo1 1048575 g.draw w B hB
  have Hv : Hid (g.ok = (g.parts && (lvOk g.leaves g.tree.length && (g.kept && (g.nextB && inB 0 1048575 g.draw))))) := g.ok_parts
  generalize g.ok = R at Hv ⊢
  generalize g.parts = o1 at A1 Hv
  generalize lvOk g.leaves g.tree.length = o2 at A2 Hv
  generalize g.kept = o3 at A3 Hv
  generalize g.nextB = o4 at A4 Hv
  generalize inB 0 1048575 g.draw = o5 at A5 Hv
  have Hcs : Hid ((g.cells x).size = 14 ∧ (g.cells x).all (·.oneCell') = true) := ⟨Gt.cells_size g x, Gt.cells_one g x⟩
  have Gc : Hid (∀ W B, Boxed W B (g.cells x) 51 → W.cell? ⟨B, 5, none⟩ = some (.slice x.a3 g.tree.length x.c3) ∧ W.cell? ⟨B, 6, none⟩ = some (.slice x.a4 g.leaves.length x.c4) ∧ W.cell? ⟨B, 13, none⟩ = some (.int .i64 g.draw)) := fun W B hh => ⟨hh.cell 5 rfl, hh.cell 6 rfl, hh.cell 13 rfl⟩
  unfold Gt.val at A1 A3 A4 ⊢
  have K : Hid (∀ w', Below w.heap.size w w' → GtV w' x g) := fun w' q => h.out.below q
  generalize g.cells x = cs at A1 A3 A4 Hcs Gc ⊢
  generalize g.tree.length = n3 at A2 Gc
  generalize g.leaves.length = n4 at A2 Gc
  generalize g.draw = dr at A5 Gc
  have B1 : Hid _ := A1
  clear A1
  have A1 := B1
  clear B1
  have B2 : Hid _ := A2
  clear A2
  have A2 := B2
  clear B2
  have B3 : Hid _ := A3
  clear A3
  have A3 := B3
  clear B3
  have B4 : Hid _ := A4
  clear A4
  have A4 := B4
  clear B4
  have B5 : Hid _ := A5
  clear A5
  have A5 := B5
  clear B5
  obtain ⟨A, hAq⟩ : ∃ A, A = w.heap.size := ⟨_, rfl⟩
  obtain ⟨W0, hW⟩ : ∃ W, W = w.alloc (.cells cs 51) := ⟨_, rfl⟩
  have Z0 : Hid (Boxed W0 A cs 51 ∧ Below w.heap.size w W0) := by
    have bw : Below w.heap.size w W0 := by rw [hW]; exact (Below.refl _ _).alloc (Nat.le_refl _) _
    exact ⟨by rw [hW, hAq]; exact Boxed.new _ _ _, bw⟩
  have HW : Hid (W0 = _) := hW
  have HA : Hid (A = _) := hAq
  clear hW hAq h hB s1 s2 s3 s4 s5 s6 s7
  go_enter Tryz.func9, Tryz.ntmps9
  go_upto_region 1 with fail
  rw [← HW.out, ← HA.out]
  clear HW HA
  go_wp2_with (refine wpList_load_row rfl 51 (.tmp 1) rfl A rfl _ _ _ _ Z0.out.1 Tryz.underlying51 rfl (by rw [Hcs.out.1]; kernel_rfl) ?_)
  refine (A1.out _ (K.out _ Z0.out.2)).mono ?_
  rintro e w1 ⟨rfl, q⟩
  have Z1 : Hid (Boxed w1 A cs 51 ∧ Below w.heap.size w w1) := ⟨Z0.out.1.below Z0.out.1.under q, Z0.out.2.trans (q.mono Z0.out.2.size)⟩
  clear q Z0
  cases o1
  · have e : R = false := by rw [Hv.out]; rfl
    subst e
    go_wp2
    go_ret
    exact ⟨rfl, Z1.out.2⟩
  obtain ⟨d5, d6, d13⟩ := Gc.out _ _ Z1.out.1
  go_wp2_with fail
  refine (A2.out _ (K.out _ Z1.out.2)).mono ?_
  rintro e w2 ⟨rfl, q⟩
  have Z2 : Hid (Boxed w2 A cs 51 ∧ Below w.heap.size w w2) := ⟨Z1.out.1.below Z1.out.1.under q, Z1.out.2.trans (q.mono Z1.out.2.size)⟩
  clear q Z1 d5 d6 d13
  cases o2
  · have e : R = false := by rw [Hv.out]; rfl
    subst e
    go_wp2
    go_ret
    exact ⟨rfl, Z2.out.2⟩
  go_wp2_with (refine wpList_load_rowG (by simp [Region.wanted, yielded, Act.put] <;> omega) 51 (.tmp 1) rfl A rfl _ _ _ _ Z2.out.1 Tryz.underlying51 rfl (by rw [Hcs.out.1]; kernel_rfl) ?_)
  refine (A3.out _ (K.out _ Z2.out.2)).mono ?_
  rintro e w3 ⟨rfl, q⟩
  have Z3 : Hid (Boxed w3 A cs 51 ∧ Below w.heap.size w w3) := ⟨Z2.out.1.below Z2.out.1.under q, Z2.out.2.trans (q.mono Z2.out.2.size)⟩
  clear q Z2
  cases o3
  · have e : R = false := by rw [Hv.out]; rfl
    subst e
    go_wp2
    go_ret
    exact ⟨rfl, Z3.out.2⟩
  go_wp2_with (refine wpList_load_rowG (by simp [Region.wanted, yielded, Act.put] <;> omega) 51 (.tmp 1) rfl A rfl _ _ _ _ Z3.out.1 Tryz.underlying51 rfl (by rw [Hcs.out.1]; kernel_rfl) ?_)
  refine (A4.out _ (K.out _ Z3.out.2)).mono ?_
  rintro e w4 ⟨rfl, q⟩
  have Z4 : Hid (Boxed w4 A cs 51 ∧ Below w.heap.size w w4) := ⟨Z3.out.1.below Z3.out.1.under q, Z3.out.2.trans (q.mono Z3.out.2.size)⟩
  clear q Z3
  cases o4
  · have e : R = false := by rw [Hv.out]; rfl
    subst e
    go_wp2
    go_ret
    exact ⟨rfl, Z4.out.2⟩
  have e : R = o5 := by rw [Hv.out]; rfl
  subst e
  obtain ⟨d5, d6, d13⟩ := Gc.out _ _ Z4.out.1
  have N1 : Hid (Below w4.heap.size w4 (w4.alloc (.cells #[.int .i64 dr] 2))) := (Below.refl _ _).alloc (Nat.le_refl _) _
  go_wp2_with fail
  refine (A5.out w4 _ rfl).mono ?_
  rintro e w5 ⟨rfl, hw5⟩
  have B5 : Hid (Below w.heap.size w w5) := by rw [hw5]; exact Z4.out.2.trans (N1.out.mono Z4.out.2.size)
  clear hw5 A5 N1 d5 d6 d13
  go_wp2
  go_ret
  exact ⟨rfl, B5.out⟩
theorem implGateOkV (g : Gt) (v : Value) (w : World) (hB : g.big ≤ 1048576) (h : Hid (GtAt w v g)) :
    Calls Tryz.prog 9 #[v] w fun e w' => e = .returned (.bool g.ok) ∧ Below w.heap.size w w' := by
  obtain ⟨x, rfl, hG⟩ := h.out
  exact implGateOk g x w hB hG
end Go.Proofs.YtaojbmhodpffiaaGreat

/-
  The exact law of GateOk, walked with what the program answers. By the verifier.
-/
namespace Go.Proofs.YtaojbmhodpffiaaGreat
open Go.RowKit

theorem fnExactGateOk_walk (g : Gt) (x : Ga) (w : World) (hl : GtLen g) (h : Hid (GtV w x g)) :
    Calls Tryz.prog 3 #[g.val x] w fun e w' => e = .returned (.bool true) ∧ Below w.heap.size w w' :=
  fnExactGateOk_of implGateOkV g x w hl h
end Go.Proofs.YtaojbmhodpffiaaGreat
