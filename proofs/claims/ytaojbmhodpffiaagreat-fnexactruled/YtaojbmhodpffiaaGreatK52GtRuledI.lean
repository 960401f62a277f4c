import Derived.Test.YtaojbmhodpffiaaGreatK42GtPartF
import Derived.Test.YtaojbmhodpffiaaGreatK45OneN
import Derived.Test.YtaojbmhodpffiaaGreatK47FwFn
import Derived.Test.YtaojbmhodpffiaaGreatK46RwOkI
import Derived.Test.YtaojbmhodpffiaaGreatK8GtSpot
import Derived.Test.YtaojbmhodpffiaaGreatK19GtZero
import Derived.Test.YtaojbmhodpffiaaGreatK27QuietSeq
import Derived.BigQuiet
import Derived.Test.YtaojbmhodpffiaaGreatK48GtPartI
import Derived.Test.YtaojbmhodpffiaaGreatK49GtKeptI
import Derived.Test.YtaojbmhodpffiaaGreatK15NumUp
import Derived.Test.YtaojbmhodpffiaaGreatK36LoadG
import Derived.Test.YtaojbmhodpffiaaGreatK9StepRow
import Derived.Deep.DeepCutAuto
import Derived.Test.YtaojbmhodpffiaaGreatK51GtOwnI
import Derived.Test.YtaojbmhodpffiaaGreatK18RtLow
import Derived.Test.YtaojbmhodpffiaaGreatK24NdApp
import Derived.Test.YtaojbmhodpffiaaGreatK40RegList
/-
  The walk of the program's leavesOk. By the verifier.
-/
namespace Go.Proofs.YtaojbmhodpffiaaGreat
open Go.RowKit

theorem lv_hit {ls : List Int} {n k : Nat} (h : k < ls.length) (g : lvB ls n k = false) : (List.range ls.length).all (lvB ls n) = false := by
  rw [List.all_eq_false]
  exact ⟨k, List.mem_range.2 h, by rw [g]; decide⟩
theorem lv_succ (ls : List Int) (n k : Nat) : (List.range (k + 1)).all (lvB ls n) = ((List.range k).all (lvB ls n) && lvB ls n k) := by
  simp [List.range_succ]

set_option maxHeartbeats 3200000 in
set_option maxRecDepth 100000 in
theorem implLeavesOk (ls : List Int) (a : Option Addr) (c n : Nat) (w : World) (hn : n ≤ 1048576) (hT : ls.length ≤ 1048576) (h : Hid (IntsAt w a ls)) :
    Calls Tryz.prog 46 #[.slice a ls.length c, .int .i64 (n : Int)] w fun e w' => e = .returned (.bool (lvOk ls n)) ∧ Below w.heap.size w w' := by
  have Hv : Hid (lvOk ls n = (inB 1 8 (ls.length : Int) && (List.range ls.length).all (lvB ls n))) := by
    show lvOk ls n = _
    unfold lvOk
    rw [← Bool.and_assoc]
    congr 1
    rw [Bool.eq_iff_iff]
    simp only [Bool.and_eq_true, decide_eq_true_eq, inB_true]
    omega
  have Hh : Hid (∀ k, k < ls.length → lvB ls n k = false → (List.range ls.length).all (lvB ls n) = false) := fun k hk g => lv_hit hk g
  have Hs : Hid (∀ k, (List.range (k + 1)).all (lvB ls n) = ((List.range k).all (lvB ls n) && lvB ls n k)) := fun k => lv_succ ls n k
  have Hb : Hid (∀ k, lvB ls n k = (inB 0 ((n : Int) - 1) (ls[k]?.getD 0) && (decide (k = 0) || decide (ls[k - 1]?.getD 0 < ls[k]?.getD 0)))) := fun k => by
    unfold lvB
    rw [← Bool.and_assoc]
    congr 1
    rw [Bool.eq_iff_iff]
    simp only [Bool.and_eq_true, decide_eq_true_eq, inB_true]
    omega
  obtain ⟨len, hlen⟩ : ∃ m, ls.length = m := ⟨_, rfl⟩
  have Hlen : Hid (ls.length = len) := hlen
  rw [hlen] at hT Hv Hh ⊢
  clear hlen
  have F := fun B w hB => implFromOne 8 (len : Int) B w hB
  have AP := fun p w => implPlace n p w hn
  generalize lvOk ls n = R at Hv ⊢
  generalize inB 1 8 (len : Int) = ok at F Hv
  have F' : Hid _ := F
  have AP' : Hid _ := AP
  clear F AP
  have N1 : Hid (Below w.heap.size w (w.alloc (.cells #[.int .i64 (len : Int)] 2))) := (Below.refl _ _).alloc (Nat.le_refl _) _
  go_enter Tryz.func46, Tryz.ntmps46
  go_wp2_with fail
  refine (F'.out _ w rfl).mono ?_
  rintro e w1 ⟨rfl, hw1⟩
  have B1 : Hid (Below w.heap.size w w1) := by rw [hw1]; exact N1.out
  clear hw1 F' N1
  cases ok
  · have e1 : R = false := by rw [Hv.out]; rfl
    subst e1
    go_wp2
    go_ret
    exact ⟨rfl, B1.out⟩
  have e1 : R = (List.range len).all (lvB ls n) := by rw [Hv.out, Bool.true_and]
  have HR : Hid _ := e1
  clear e1 Hv
  go_wp2
  go_loopw [5, 6, 14] (fun _ _ i wr => ∃ k : Nat, k ≤ len ∧ i = .int .i64 k ∧ Hid ((List.range k).all (lvB ls n) = true) ∧ Hid (Below w.heap.size w wr)) (fun _ _ i _ => len - (intOf i).toNat)
  case atStart => exact ⟨0, Nat.zero_le _, rfl, rfl, B1.out⟩
  case round =>
    obtain ⟨k, hk, rfl, hg, HB⟩ := hrel
    by_cases hlt : k < len
    · have hlt' : (k : Int) < (len : Int) := by omega
      have Rr : Hid (IntsAt wr a ls) := h.out.below HB.out
      obtain ⟨b1, o1, ha1, hb1, c0⟩ := Rr.out k (by rw [Hlen.out]; exact hlt)
      subst ha1
      have AP := fun w => AP'.out (ls[k]?.getD 0) w
      have hb := Hb.out k
      have hh := Hh.out k hlt
      have hs := Hs.out k
      rw [hg.out, Bool.true_and] at hs
      have P1 : Hid (∀ j, j < k → ∀ w2, Below wr.heap.size wr w2 → w2.cell? ⟨b1, o1 + j, none⟩ = some (.int .i64 (ls[j]?.getD 0))) := fun j hj w2 q => by
        obtain ⟨b2, o2, ha2, hb2, d0⟩ := (Rr.out.below q) j (by rw [Hlen.out]; omega)
        cases ha2
        exact d0
      generalize lvB ls n k = lb at hb hh hs
      have HS : Hid _ := hs
      have HH : Hid _ := hh
      have HP : Hid (∀ j, k = j + 1 → ls[k - 1]?.getD 0 = ls[j]?.getD 0) := fun j e => by rw [e]; rfl
      generalize ls[k - 1]?.getD 0 = y at hb HP
      generalize ls[k]?.getD 0 = x at c0 AP hb
      generalize inB 0 ((n : Int) - 1) x = pl at AP hb
      have AP2 : Hid _ := AP
      have HB2 : Hid _ := hb
      clear hb hh hs AP
      have Bx : Hid (Below wr.heap.size wr (wr.alloc (.cells #[.int .i64 x] 2))) := (Below.refl _ _).alloc (Nat.le_refl _) _
      go_wp2_with fail
      refine (AP2.out _).mono ?_
      rintro e w2 ⟨rfl, hw2⟩
      have B2 : Hid (Below wr.heap.size wr w2) := by rw [hw2]; exact Bx.out
      clear hw2 AP2 Bx
      cases pl
      · have e1 : R = false := by rw [HR.out]; exact HH.out (by rw [HB2.out]; rfl)
        subst e1
        have B3 : Hid (Below w.heap.size w w2) := HB.out.trans (B2.out.mono HB.out.size)
        go_wp2
        go_ret
        exact ⟨rfl, B3.out⟩
      by_cases hk0 : k = 0
      · subst hk0
        have hg2 : Hid ((List.range (0 + 1)).all (lvB ls n) = true) := by show _ = true; rw [HS.out, HB2.out]; rfl
        have B3 : Hid (Below w.heap.size w w2) := HB.out.trans (B2.out.mono HB.out.size)
        clear HS HB2 HH HP P1 B2
        go_wp2
        go_roundw
        case rel => exact ⟨1, by omega, by go_num, hg2, B3⟩
        case measure => simp [intOf]; omega
      obtain ⟨j, rfl⟩ : ∃ j, k = j + 1 := ⟨k - 1, by omega⟩
      have d0 := P1.out j (by omega) w2 B2.out
      rw [← HP.out j rfl] at d0
      have hb12 : b1 < w2.heap.size := Nat.lt_of_lt_of_le hb1 B2.out.size
      have B3 : Hid (Below w.heap.size w w2) := HB.out.trans (B2.out.mono HB.out.size)
      have hj0 : (0 : Int) ≤ (j : Int) := by omega
      have hjl : (j : Int) < (len : Int) := by omega
      have hj1 : (0 : Int) < (j : Int) + 1 := by omega
      by_cases hL : x ≤ y
      · have e1 : R = false := by rw [HR.out]; exact HH.out (by rw [HB2.out, decide_eq_false (by omega), decide_eq_false (by omega)]; rfl)
        subst e1
        clear HS HB2 HH HP P1 B2
        go_wp2
        go_ret
        exact ⟨rfl, B3.out⟩
      · have hg2 : Hid ((List.range (j + 1 + 1)).all (lvB ls n) = true) := by show _ = true; rw [HS.out, HB2.out, decide_eq_true (show y < x by omega)]; simp
        clear HS HB2 HH HP P1 B2
        go_wp2
        go_roundw
        case rel => exact ⟨j + 1 + 1, by omega, by go_num, hg2, B3⟩
        case measure => simp [intOf]; omega
    · obtain rfl : k = len := by omega
      have e1 : R = true := by rw [HR.out]; exact hg.out
      subst e1
      go_wp2
      go_ret
      exact ⟨rfl, HB.out⟩
end Go.Proofs.YtaojbmhodpffiaaGreat

/-
  The walks of slices.IndexFunc and slices.ContainsFunc on lists of items. By the verifier.
-/
namespace Go.Proofs.YtaojbmhodpffiaaGreat
open Go.RowKit Go.Shelf

/-- A function that tells yes or no of a list, as long as all that lay lies. -/
structure IzTells (W0 : World) (g : FuncId) (fs cb : Array Value) (p : List It → Bool) : Prop where
  enters : Enters Tryz.prog g
  tells : ∀ (W : World) (ak : Option Addr) (ck : Nat) (l : List It), Below W0.heap.size W0 W → l.length ≤ 1048576 → ItsAt W ak l → Calls Tryz.prog g (fs ++ #[.slice ak l.length ck] ++ cb) W fun e w' => e = .returned (.bool (p l)) ∧ Below W.heap.size W w'

set_option maxHeartbeats 1600000 in
set_option maxRecDepth 100000 in
theorem implIndexZ (a : Option Addr) (cap : Nat) (l : List (List It)) (g : FuncId) (fs cb : Array Value) (p : List It → Bool) (w : World) (hT : l.length ≤ 1048576) (hin : ∀ k, k < l.length → (izAt l k).length ≤ 1048576) (h : Hid (IzAt w a l)) (ht : Hid (IzTells w g fs cb p)) :
    Calls Tryz.prog 152 #[.slice a l.length cap, .func (.func g) fs cb] w fun e w' => e = .returned (.int .i64 (if l.findIdx p < l.length then (l.findIdx p : Int) else -1)) ∧ Below w.heap.size w w' := by
  have eg : ∀ args w, (callFunc g args).run Tryz.prog w = .ok (.enter g args) w := ht.out.enters
  have Hin : Hid (∀ k, k < l.length → (izAt l k).length ≤ 1048576) := hin
  obtain ⟨len, hlen⟩ : ∃ n, l.length = n := ⟨_, rfl⟩
  have Hlen : Hid (l.length = len) := hlen
  obtain ⟨N, hN⟩ : ∃ N, l.findIdx p = N := ⟨_, rfl⟩
  have HN : Hid (l.findIdx p = N) := hN
  have hNl : N ≤ len := by rw [← hN, ← hlen]; exact List.findIdx_le_length
  rw [hlen] at hT ⊢
  rw [hN]
  clear hlen hN hin
  go_enter Tryz.func152, Tryz.ntmps152
  go_wp2
  go_loopw [8] (fun i wr => ∃ k : Nat, k ≤ N ∧ i = .int .i64 k ∧ Hid (Below w.heap.size w wr)) (fun i _ => len - (intOf i).toNat)
  case atStart => exact ⟨0, Nat.zero_le _, rfl, Below.refl _ _⟩
  case round =>
    obtain ⟨k, hk, rfl, H1⟩ := hrel
    by_cases hlt : k < len
    · have hkl : k < l.length := by rw [Hlen.out]; exact hlt
      obtain ⟨b1, o1, ak, ck, ha1, hb1, hc, hr, -⟩ := (h.out.below H1.out) k hkl
      subst ha1
      have HC := ht.out.tells wr ak ck (izAt l k) H1.out (Hin.out k hkl) hr
      have hlt' : (k : Int) < (len : Int) := by omega
      by_cases hkN : k = N
      · have hp : p (izAt l k) = true := by
          rw [izAt_lt hkl]
          have := List.findIdx_getElem (p := p) (xs := l) (w := by rw [HN.out, Hlen.out, ← hkN]; exact hlt)
          simpa only [HN.out, ← hkN] using this
        rw [hp] at HC
        clear hp hr hkl
        generalize (izAt l k).length = n at hc HC
        subst hkN
        go_wp2_with fail
        refine HC.mono ?_
        rintro e w' ⟨rfl, hb'⟩
        have B2 : Hid (Below w.heap.size w w') := H1.out.trans (hb'.mono H1.out.size)
        clear hb' H1 HC hc
        go_wp2
        go_ret
        exact ⟨by first | rfl | (rw [if_pos hlt]; rfl), B2.out⟩
      · have hp : p (izAt l k) = false := by
          rw [izAt_lt hkl]
          have := List.not_of_lt_findIdx (p := p) (xs := l) (i := k) (by rw [HN.out]; omega)
          simpa using this
        rw [hp] at HC
        clear hp hr hkl
        generalize (izAt l k).length = n at hc HC
        go_wp2_with fail
        refine HC.mono ?_
        rintro e w' ⟨rfl, hb'⟩
        have B2 : Hid (Below w.heap.size w w') := H1.out.trans (hb'.mono H1.out.size)
        clear hb' H1 HC hc
        go_wp2
        go_roundw
        case rel => exact ⟨k + 1, by omega, by go_num, B2⟩
        case measure => simp [intOf]; omega
    · obtain rfl : k = len := by omega
      obtain rfl : k = N := by omega
      go_wp2
      go_ret
      exact ⟨by first | rfl | (rw [if_neg (Nat.lt_irrefl _)]; rfl), H1.out⟩

set_option maxHeartbeats 1600000 in
theorem implContainsZ (a : Option Addr) (cap : Nat) (l : List (List It)) (g : FuncId) (fs cb : Array Value) (p : List It → Bool) (w : World) (hT : l.length ≤ 1048576) (hin : ∀ k, k < l.length → (izAt l k).length ≤ 1048576) (h : Hid (IzAt w a l)) (ht : Hid (IzTells w g fs cb p)) :
    Calls Tryz.prog 107 #[.slice a l.length cap, .func (.func g) fs cb] w fun e w' => e = .returned (.bool (l.any p)) ∧ Below w.heap.size w w' := by
  have I := fun (_ : Nat) => implIndexZ a cap l g fs cb p w hT hin h ht
  have Ha : Hid (decide (l.findIdx p < l.length) = l.any p) := any_idxT l p
  generalize l.any p = b at Ha ⊢
  generalize l.findIdx p = N at I Ha
  generalize l.length = len at I Ha ⊢
  have I' : Hid _ := I
  clear I hT hin h ht
  go_enter Tryz.func107, Tryz.ntmps107
  go_wp2_with fail
  refine (I'.out 0).mono ?_
  rintro e w' ⟨rfl, hb⟩
  have B2 : Hid (Below w.heap.size w w') := hb
  clear hb I'
  by_cases hk : N < len
  · rw [if_pos hk]
    have hp : (0 : Int) ≤ (N : Int) := by omega
    go_wp2
    go_ret
    exact ⟨ret_bool (by rw [← Ha.out, decide_eq_true hk]), B2.out⟩
  · rw [if_neg hk]
    go_wp2
    go_ret
    exact ⟨ret_bool (by rw [← Ha.out, decide_eq_false hk]), B2.out⟩
end Go.Proofs.YtaojbmhodpffiaaGreat

/-
  The walk of the program's nextOk. By the verifier.
-/
namespace Go.Proofs.YtaojbmhodpffiaaGreat
open Go.RowKit Go.Shelf

set_option maxHeartbeats 1600000 in
set_option maxRecDepth 100000 in
theorem implNextA (g : Gt) (x : Ga) (r : It) (B : Nat) (w : World) (hB : Hid (Boxed w B (g.cells x) 51)) :
    Calls Tryz.prog 110 #[r.val, .pointer (some ⟨B, 0, none⟩)] w fun e w' => e = .returned (.bool (decide (g.next ≤ r.id))) ∧ Below w.heap.size w w' := by
  obtain ⟨r1, r2, r3⟩ := r
  simp only [It.val]
  have c0 : w.cell? ⟨B, 12, none⟩ = some (.int .i64 g.next) := hB.out.cell 12 rfl
  have hl : B < w.heap.size := hB.out.under
  have hne : ¬ w.heap.size = B := by omega
  have hne2 : ¬ B = w.heap.size := by omega
  have H : Hid (Below w.heap.size w (w.alloc (.cells #[.int .i64 r1, .int .i64 r2, .int .i64 r3] 88))) := (Below.refl _ _).alloc (Nat.le_refl _) _
  generalize g.next = y at c0 ⊢
  clear hB
  go_enter Tryz.func110, Tryz.ntmps110
  go_wp2
  go_ret
  exact ⟨rfl, H.out⟩

set_option maxHeartbeats 1600000 in
theorem implNextL (g : Gt) (x : Ga) (ak : Option Addr) (ck : Nat) (l : List It) (B : Nat) (w : World) (hT : l.length ≤ 1048576) (h : ItsAt w ak l) (hB : Boxed w B (g.cells x) 51) :
    Calls Tryz.prog 108 #[.slice ak l.length ck, .pointer (some ⟨B, 0, none⟩)] w fun e w' => e = .returned (.bool (l.any fun r => decide (g.next ≤ r.id))) ∧ Below w.heap.size w w' := by
  have C := fun (_ : Nat) => implContainsT ak ck l 110 #[] #[.pointer (some ⟨B, 0, none⟩)] (fun k => k = B) (fun _ => True) (fun r => decide (g.next ≤ r.id)) w hT h (fun _ _ => trivial) ⟨enters_of Tryz.func110 (by kernel_rfl) rfl, fun k hk => by rw [hk]; exact hB.under, fun W r _ hW => implNextA g x r B W ((hW B rfl).trans hB)⟩
  generalize (l.any fun r => decide (g.next ≤ r.id)) = z at C ⊢
  generalize l.length = n at C ⊢
  have hmf : ∀ (fn : Fn) (first cap : Array Value) (w : World), (Instr.makeFunc fn first cap).run Tryz.prog w = .ok (.func fn first cap) w := fun _ _ _ _ => rfl
  have C' : Hid _ := C
  clear C h hB hT
  go_enter Tryz.func108, Tryz.ntmps108
  go_wp2_with fail
  refine (C'.out 0).mono ?_
  rintro e w' ⟨rfl, hb⟩
  have B2 : Hid (Below w.heap.size w w') := hb
  clear hb C'
  go_wp2
  go_ret
  exact ⟨rfl, B2.out⟩

set_option maxHeartbeats 1600000 in
set_option maxRecDepth 100000 in
theorem implNext (g : Gt) (x : Ga) (w : World) (hB : g.big ≤ 1048576) (h : Hid (GtV w x g)) :
    Calls Tryz.prog 48 #[g.val x] w fun e w' => e = .returned (.bool g.nextB) ∧ Below w.heap.size w w' := by
  obtain ⟨-, -, -, -, s5, -, -⟩ := Gt.small hB
  obtain ⟨sT, -, sin⟩ := Rw.small s5
  have C : Hid (∀ (B : Nat) (W : World), IzAt W x.a5 g.rows.lists → Boxed W B (g.cells x) 51 → Calls Tryz.prog 107 #[.slice x.a5 g.rows.lists.length x.c5, .func (.func 108) #[] #[.pointer (some ⟨B, 0, none⟩)]] W fun e w' => e = .returned (.bool (g.rows.lists.any fun l => l.any fun i => decide (g.next ≤ i.id))) ∧ Below W.heap.size W w') := fun B W h1 h2 => implContainsZ x.a5 x.c5 g.rows.lists 108 #[] #[.pointer (some ⟨B, 0, none⟩)] (fun l => l.any fun i => decide (g.next ≤ i.id)) W sT sin h1 ⟨enters_of Tryz.func108 (by kernel_rfl) rfl, fun W2 ak ck l hW hl hr => implNextL g x ak ck l B W2 hl hr (h2.below h2.under hW)⟩
  have F := fun B w hB => implFromOne 1000000 g.next B w hB
  have Iz : Hid (IzAt w x.a5 g.rows.lists) := h.out.rows.spot
  have Hv : Hid (g.nextB = (inB 1 1000000 g.next && !(g.rows.lists.any fun l => l.any fun i => decide (g.next ≤ i.id)))) := rfl
  generalize g.nextB = R at Hv ⊢
  generalize (g.rows.lists.any fun l => l.any fun i => decide (g.next ≤ i.id)) = an at C Hv
  generalize inB 1 1000000 g.next = ib at F Hv
  obtain ⟨W0, hW⟩ : ∃ W, W = w.alloc (.cells (g.cells x) 51) := ⟨_, rfl⟩
  have X0 : Hid (Boxed W0 w.heap.size (g.cells x) 51 ∧ Below w.heap.size w W0 ∧ IzAt W0 x.a5 g.rows.lists) := by
    rw [hW]
    exact ⟨Boxed.new _ _ _, (Below.refl _ _).alloc (Nat.le_refl _) _, Iz.out.alloc _⟩
  have HW : Hid (W0 = _) := hW
  have Cx : Hid (∀ W B, Boxed W B (g.cells x) 51 → W.cell? ⟨B, 12, none⟩ = some (.int .i64 g.next) ∧ W.cell? ⟨B, 8, none⟩ = some (.slice x.a5 g.rows.lists.length x.c5)) := fun W B hh => ⟨hh.cell 12 rfl, hh.cell 8 rfl⟩
  have F' : Hid _ := F
  clear F hW h hB Iz sin
  unfold Gt.val
  generalize g.cells x = cs at C X0 HW Cx ⊢
  generalize g.next = nx at F' Cx
  generalize g.rows.lists.length = n5 at C Cx sT
  have hmf : ∀ (fn : Fn) (first cap : Array Value) (w : World), (Instr.makeFunc fn first cap).run Tryz.prog w = .ok (.func fn first cap) w := fun _ _ _ _ => rfl
  go_enter Tryz.func48, Tryz.ntmps48
  go_upto_region 1 with fail
  rw [← HW.out]
  clear HW
  obtain ⟨c12, c8⟩ := Cx.out _ _ X0.out.1
  have hu := X0.out.1.under
  have N1 : Hid (Below W0.heap.size W0 (W0.alloc (.cells #[.int .i64 nx] 2))) := (Below.refl _ _).alloc (Nat.le_refl _) _
  cases ib
  · have e1 : R = false := by rw [Hv.out]; rfl
    subst e1
    go_wp2_with fail
    refine (F'.out _ W0 rfl).mono ?_
    rintro e w1 ⟨rfl, hw1⟩
    have B1 : Hid (Below w.heap.size w w1) := by rw [hw1]; exact X0.out.2.1.trans (N1.out.mono X0.out.2.1.size)
    clear hw1 F' N1
    go_wp2
    go_ret
    exact ⟨rfl, B1.out⟩
  have e1 : R = !an := by rw [Hv.out, Bool.true_and]
  subst e1
  go_wp2_with fail
  refine (F'.out _ W0 rfl).mono ?_
  rintro e w1 ⟨rfl, hw1⟩
  have b1 : Below W0.heap.size W0 w1 := by rw [hw1]; exact N1.out
  have X1 : Hid (Boxed w1 w.heap.size cs 51 ∧ Below w.heap.size w w1 ∧ IzAt w1 x.a5 g.rows.lists) := ⟨X0.out.1.below X0.out.1.under b1, X0.out.2.1.trans (b1.mono X0.out.2.1.size), X0.out.2.2.below b1⟩
  obtain ⟨d12, d8⟩ := Cx.out _ _ X1.out.1
  clear hw1 F' N1 b1 X0 c12 c8 hu
  go_wp2_with fail
  refine (C.out _ _ X1.out.2.2 X1.out.1).mono ?_
  rintro e w2 ⟨rfl, q⟩
  have B2 : Hid (Below w.heap.size w w2) := X1.out.2.1.trans (q.mono X1.out.2.1.size)
  clear q C X1 d12 d8
  go_wp2
  go_ret
  exact ⟨rfl, B2.out⟩
end Go.Proofs.YtaojbmhodpffiaaGreat

/-
  The walk of the program's GateOk. By the verifier, by program.
-/
namespace Go.Proofs.YtaojbmhodpffiaaGreat
open Go.RowKit Go.Shelf

set_option maxHeartbeats 6400000 in
set_option maxRecDepth 100000 in
theorem implGateOk (g : Gt) (x : Ga) (w : World) (hB : g.big ≤ 1048576) (h : Hid (GtV w x g)) :
    Calls Tryz.prog 9 #[g.val x] w fun e w' => e = .returned (.bool g.ok) ∧ Below w.heap.size w w' := by
  obtain ⟨s1, s2, s3, s4, s5, s6, s7⟩ := Gt.small hB
  have A1 := fun w (h : GtV w x g) => implParts g x w hB h
  have A2 := fun w (h : GtV w x g) => implLeavesOk g.leaves x.a4 x.c4 g.tree.length w s3 s4 h.leaves.spot'
  have A3 := fun w (h : GtV w x g) => implKept g x w hB h
  have A4 := fun w (h : GtV w x g) => implNext g x w hB h
  have A5 := fun w B hB => implUpTo1 1048575 g.draw w B hB
  have Hv : Hid (g.ok = (g.parts && (lvOk g.leaves g.tree.length && (g.kept && (g.nextB && inB 0 1048575 g.draw))))) := g.ok_parts
  generalize g.ok = R at Hv ⊢
  generalize g.parts = o1 at A1 Hv
  generalize lvOk g.leaves g.tree.length = o2 at A2 Hv
  generalize g.kept = o3 at A3 Hv
  generalize g.nextB = o4 at A4 Hv
  generalize inB 0 1048575 g.draw = o5 at A5 Hv
  have Hcs : Hid ((g.cells x).size = 14 ∧ (g.cells x).all (·.oneCell') = true) := ⟨Gt.cells_size g x, Gt.cells_one g x⟩
  have Gc : Hid (∀ W B, Boxed W B (g.cells x) 51 → W.cell? ⟨B, 5, none⟩ = some (.slice x.a3 g.tree.length x.c3) ∧ W.cell? ⟨B, 6, none⟩ = some (.slice x.a4 g.leaves.length x.c4) ∧ W.cell? ⟨B, 13, none⟩ = some (.int .i64 g.draw)) := fun W B hh => ⟨hh.cell 5 rfl, hh.cell 6 rfl, hh.cell 13 rfl⟩
  unfold Gt.val at A1 A3 A4 ⊢
  have K : Hid (∀ w', Below w.heap.size w w' → GtV w' x g) := fun w' q => h.out.below q
  generalize g.cells x = cs at A1 A3 A4 Hcs Gc ⊢
  generalize g.tree.length = n3 at A2 Gc
  generalize g.leaves.length = n4 at A2 Gc
  generalize g.draw = dr at A5 Gc
  have B1 : Hid _ := A1
  clear A1
  have A1 := B1
  clear B1
  have B2 : Hid _ := A2
  clear A2
  have A2 := B2
  clear B2
  have B3 : Hid _ := A3
  clear A3
  have A3 := B3
  clear B3
  have B4 : Hid _ := A4
  clear A4
  have A4 := B4
  clear B4
  have B5 : Hid _ := A5
  clear A5
  have A5 := B5
  clear B5
  obtain ⟨A, hAq⟩ : ∃ A, A = w.heap.size := ⟨_, rfl⟩
  obtain ⟨W0, hW⟩ : ∃ W, W = w.alloc (.cells cs 51) := ⟨_, rfl⟩
  have Z0 : Hid (Boxed W0 A cs 51 ∧ Below w.heap.size w W0) := by
    have bw : Below w.heap.size w W0 := by rw [hW]; exact (Below.refl _ _).alloc (Nat.le_refl _) _
    exact ⟨by rw [hW, hAq]; exact Boxed.new _ _ _, bw⟩
  have HW : Hid (W0 = _) := hW
  have HA : Hid (A = _) := hAq
  clear hW hAq h hB s1 s2 s3 s4 s5 s6 s7
  go_enter Tryz.func9, Tryz.ntmps9
  go_upto_region 1 with fail
  rw [← HW.out, ← HA.out]
  clear HW HA
  go_wp2_with (refine wpList_load_row rfl 51 (.tmp 1) rfl A rfl _ _ _ _ Z0.out.1 Tryz.underlying51 rfl (by rw [Hcs.out.1]; kernel_rfl) ?_)
  refine (A1.out _ (K.out _ Z0.out.2)).mono ?_
  rintro e w1 ⟨rfl, q⟩
  have Z1 : Hid (Boxed w1 A cs 51 ∧ Below w.heap.size w w1) := ⟨Z0.out.1.below Z0.out.1.under q, Z0.out.2.trans (q.mono Z0.out.2.size)⟩
  clear q Z0
  cases o1
  · have e : R = false := by rw [Hv.out]; rfl
    subst e
    go_wp2
    go_ret
    exact ⟨rfl, Z1.out.2⟩
  obtain ⟨d5, d6, d13⟩ := Gc.out _ _ Z1.out.1
  go_wp2_with fail
  refine (A2.out _ (K.out _ Z1.out.2)).mono ?_
  rintro e w2 ⟨rfl, q⟩
  have Z2 : Hid (Boxed w2 A cs 51 ∧ Below w.heap.size w w2) := ⟨Z1.out.1.below Z1.out.1.under q, Z1.out.2.trans (q.mono Z1.out.2.size)⟩
  clear q Z1 d5 d6 d13
  cases o2
  · have e : R = false := by rw [Hv.out]; rfl
    subst e
    go_wp2
    go_ret
    exact ⟨rfl, Z2.out.2⟩
  go_wp2_with (refine wpList_load_rowG (by simp [Region.wanted, yielded, Act.put] <;> omega) 51 (.tmp 1) rfl A rfl _ _ _ _ Z2.out.1 Tryz.underlying51 rfl (by rw [Hcs.out.1]; kernel_rfl) ?_)
  refine (A3.out _ (K.out _ Z2.out.2)).mono ?_
  rintro e w3 ⟨rfl, q⟩
  have Z3 : Hid (Boxed w3 A cs 51 ∧ Below w.heap.size w w3) := ⟨Z2.out.1.below Z2.out.1.under q, Z2.out.2.trans (q.mono Z2.out.2.size)⟩
  clear q Z2
  cases o3
  · have e : R = false := by rw [Hv.out]; rfl
    subst e
    go_wp2
    go_ret
    exact ⟨rfl, Z3.out.2⟩
  go_wp2_with (refine wpList_load_rowG (by simp [Region.wanted, yielded, Act.put] <;> omega) 51 (.tmp 1) rfl A rfl _ _ _ _ Z3.out.1 Tryz.underlying51 rfl (by rw [Hcs.out.1]; kernel_rfl) ?_)
  refine (A4.out _ (K.out _ Z3.out.2)).mono ?_
  rintro e w4 ⟨rfl, q⟩
  have Z4 : Hid (Boxed w4 A cs 51 ∧ Below w.heap.size w w4) := ⟨Z3.out.1.below Z3.out.1.under q, Z3.out.2.trans (q.mono Z3.out.2.size)⟩
  clear q Z3
  cases o4
  · have e : R = false := by rw [Hv.out]; rfl
    subst e
    go_wp2
    go_ret
    exact ⟨rfl, Z4.out.2⟩
  have e : R = o5 := by rw [Hv.out]; rfl
  subst e
  obtain ⟨d5, d6, d13⟩ := Gc.out _ _ Z4.out.1
  have N1 : Hid (Below w4.heap.size w4 (w4.alloc (.cells #[.int .i64 dr] 2))) := (Below.refl _ _).alloc (Nat.le_refl _) _
  go_wp2_with fail
  refine (A5.out w4 _ rfl).mono ?_
  rintro e w5 ⟨rfl, hw5⟩
  have B5 : Hid (Below w.heap.size w w5) := by rw [hw5]; exact Z4.out.2.trans (N1.out.mono Z4.out.2.size)
  clear hw5 A5 N1 d5 d6 d13
  go_wp2
  go_ret
  exact ⟨rfl, B5.out⟩
end Go.Proofs.YtaojbmhodpffiaaGreat

/-
  A field of a gate replaced by one that was laid later. By the verifier, by program.
-/
namespace Go.Proofs.YtaojbmhodpffiaaGreat
open Go.RowKit
section
variable {lo hi b t c : Nat} {w : World} {a : Option Addr} {x : Ga} {f : Gf} {g : Gt}
theorem GtW.rep1 (h : GtW w x f g) {l : List Rt} (r : RtsW b t w (.slice a l.length c) l) : GtW w { x with a1 := a, c1 := c } { f with b1 := b, t1 := t } { g with routes := l } :=
  ⟨r, h.rules, h.tree, h.leaves, h.rows, h.steers, h.fair⟩
theorem Gf.In.rep1 (h : f.In lo hi) (hb : hi ≤ b) (hl : lo ≤ b) (ht : b ≤ t) : ({ f with b1 := b, t1 := t } : Gf).In lo t := by
  obtain ⟨l1, h1, l2, h2, l3, h3, l4, h4, l5, h5, l6, h6, l7, h7⟩ := h
  constructor <;> (try simp only) <;> omega
theorem Gf.Apart.rep1 (ap : f.Apart) (h : f.In lo hi) (hb : hi ≤ b) : ({ f with b1 := b, t1 := t } : Gf).Apart := by
  obtain ⟨l1, h1, l2, h2, l3, h3, l4, h4, l5, h5, l6, h6, l7, h7⟩ := h
  obtain ⟨p12, p13, p14, p15, p16, p17, p23, p24, p25, p26, p27, p34, p35, p36, p37, p45, p46, p47, p56, p57, p67⟩ := ap
  constructor <;> (try simp only) <;> omega
theorem GtW.rep2 (h : GtW w x f g) {l : List Ru} (r : RusW b t w (.slice a l.length c) l) : GtW w { x with a2 := a, c2 := c } { f with b2 := b, t2 := t } { g with rules := l } :=
  ⟨h.routes, r, h.tree, h.leaves, h.rows, h.steers, h.fair⟩
theorem Gf.In.rep2 (h : f.In lo hi) (hb : hi ≤ b) (hl : lo ≤ b) (ht : b ≤ t) : ({ f with b2 := b, t2 := t } : Gf).In lo t := by
  obtain ⟨l1, h1, l2, h2, l3, h3, l4, h4, l5, h5, l6, h6, l7, h7⟩ := h
  constructor <;> (try simp only) <;> omega
theorem Gf.Apart.rep2 (ap : f.Apart) (h : f.In lo hi) (hb : hi ≤ b) : ({ f with b2 := b, t2 := t } : Gf).Apart := by
  obtain ⟨l1, h1, l2, h2, l3, h3, l4, h4, l5, h5, l6, h6, l7, h7⟩ := h
  obtain ⟨p12, p13, p14, p15, p16, p17, p23, p24, p25, p26, p27, p34, p35, p36, p37, p45, p46, p47, p56, p57, p67⟩ := ap
  constructor <;> (try simp only) <;> omega
end
end Go.Proofs.YtaojbmhodpffiaaGreat

/-
  The walk of the program's Later. By the verifier, by program.
-/
namespace Go.Proofs.YtaojbmhodpffiaaGreat
open Go.RowKit

theorem gtIn_zero (b : Nat) (w : World) (hb : b ≤ w.heap.size) : GtIn b w.heap.size w (.agg #[.int .i64 0, .int .i64 0, .int .i64 0, .slice none 0 0, .slice none 0 0, .slice none 0 0, .slice none 0 0, .int .i64 0, .slice none 0 0, .slice none 0 0, .int .i64 0, .slice none 0 0, .int .i64 0, .int .i64 0]) Gt.zero := by
  refine ⟨⟨none, 0, none, 0, none, 0, none, 0, none, 0, none, 0, none, 0⟩, ⟨w.heap.size, w.heap.size, w.heap.size, w.heap.size, w.heap.size, w.heap.size, w.heap.size, w.heap.size, w.heap.size, w.heap.size, w.heap.size, w.heap.size, w.heap.size, w.heap.size⟩, rfl, ⟨RtsW.of_row (World.ownsRow_nil _ _ _ _), RusW.of_row (World.ownsRow_nil _ _ _ _), NdsW.of_row (World.ownsRow_nil _ _ _ _), IntsW.of_row (World.ownsRow_nil _ _ _ _), ⟨none, 0, rfl, [], (IzG.nil _ _).done⟩, SrsW.of_row (World.ownsRow_nil _ _ _ _), ⟨none, 0, rfl, [], (FwG.nil _ _).done⟩⟩, ?_, ?_, Nat.le_refl _⟩
  · constructor <;> (try simp only) <;> omega
  · constructor <;> exact .inl (Nat.le_refl _)

end Go.Proofs.YtaojbmhodpffiaaGreat

/-
  The walk of the program's Ruled. By the verifier, by program.
-/
namespace Go.Proofs.YtaojbmhodpffiaaGreat
open Go.RowKit

set_option maxHeartbeats 12800000 in
set_option maxRecDepth 100000 in
theorem implRuled (g : Gt) (v : Value) (ra : Option Addr) (rc : Nat) (rl : List Rt) (ua : Option Addr) (uc : Nat) (ul : List Ru) (w : World) (hB : g.big ≤ 1048576) (hr1 : rl.length ≤ 1048576) (hu1 : ul.length ≤ 1048576) (h : Hid (GtAt w v g)) (hr : Hid (RtsAt w ra rl)) (hu : Hid (RusAt w ua ul)) :
    Calls Tryz.prog 20 #[v, .slice ra rl.length rc, .slice ua ul.length uc] w fun e w' => (∃ v', e = .returned (.tuple #[v', .bool (g.ruledB rl ul)]) ∧ GtIn w.heap.size w'.heap.size w' v' (g.ruled rl ul)) ∧ Below w.heap.size w w' := by
  obtain ⟨x, rfl, hG⟩ := h.out
  have A1 := fun w (h : GtV w x g) => implGateOk g x w hB h
  have A2 := fun w (h : GtV w x g) => implOwnGate g x w hB h
  have A3 := fun W (h : RtsAt W ra rl) => implOk ra rc rl W hr1 h
  have A4 := fun W (h : RusAt W ua ul) => implRules ua uc ul W hu1 h
  have A5 : Hid (∀ W, RtsAt W ra rl → Calls Tryz.prog 79 #[.slice ra rl.length rc] W fun e w' => ∃ p c, e = .returned (.slice p rl.length c) ∧ RtRow W.heap.size w' (.slice p rl.length c) rl ∧ Below W.heap.size W w') := fun W h => (implCopyRt ra rc rl W hr1 h).mono fun e w' ⟨k, h1, h2⟩ => ⟨_, _, h1, h2⟩
  have A6 : Hid (∀ W, RusAt W ua ul → Calls Tryz.prog 80 #[.slice ua ul.length uc] W fun e w' => ∃ p c, e = .returned (.slice p ul.length c) ∧ RuRow W.heap.size w' (.slice p ul.length c) ul ∧ Below W.heap.size W w') := fun W h => (implCopyRu ua uc ul W hu1 h).mono fun e w' ⟨k, h1, h2⟩ => ⟨_, _, h1, h2⟩
  have Hno : Hid (g.ok = false → g.ruledB rl ul = false ∧ g.ruled rl ul = Gt.zero) := fun e => ⟨by unfold Gt.ruledB; rw [e]; rfl, by unfold Gt.ruled; rw [e]; rfl⟩
  have Hyes : Hid (g.ok = true → ((rtsOk rl && rusOk ul) = false → g.ruledB rl ul = false ∧ g.ruled rl ul = g) ∧ ((rtsOk rl && rusOk ul) = true → g.ruledB rl ul = true ∧ g.ruled rl ul = { g with routes := rl, rules := ul })) := fun e => by
    unfold Gt.ruledB Gt.ruled
    rw [e]
    refine ⟨fun h => ?_, fun h => ?_⟩ <;> rw [h] <;> exact ⟨rfl, rfl⟩
  have K : Hid (∀ W, Below w.heap.size w W → GtV W x g) := fun W q => hG.below q
  have Kr : Hid (∀ W, Below w.heap.size w W → RtsAt W ra rl ∧ RusAt W ua ul) := fun W q => ⟨hr.out.below q, hu.out.below q⟩
  generalize g.ruledB rl ul = fl at Hno Hyes ⊢
  generalize g.ruled rl ul = ga at Hno Hyes ⊢
  generalize rtsOk rl = o2 at A3 Hyes
  generalize rusOk ul = o3 at A4 Hyes
  generalize g.ok = ok at A1 Hno Hyes
  have Hcs : Hid (∀ x' : Ga, (g.cells x').size = 14 ∧ (g.cells x').all (·.oneCell') = true) := fun x' => ⟨Gt.cells_size g x', Gt.cells_one g x'⟩
  have Gp : Hid (∀ W B x' (p : Option Addr) (c : Nat) (q : Option Addr) (d : Nat), Boxed W B (g.cells x') 51 → (W.cell? ⟨B, 3, none⟩ = some (.slice x'.a1 g.routes.length x'.c1) ∧ W.cell? ⟨B, 4, none⟩ = some (.slice x'.a2 g.rules.length x'.c2)) ∧ Boxed ((W.setCell ⟨B, 3, none⟩ (.slice p rl.length c)).setCell ⟨B, 4, none⟩ (.slice q ul.length d)) B (({ g with routes := rl, rules := ul } : Gt).cells { x' with a1 := p, c1 := c, a2 := q, c2 := d }) 51) := fun W B x' p c q d hh => ⟨⟨hh.cell 3 rfl, hh.cell 4 rfl⟩, (hh.put 3 _).put 4 _⟩
  have Hc2 : Hid (∀ x' : Ga, (({ g with routes := rl, rules := ul } : Gt).cells x').size = 14 ∧ (({ g with routes := rl, rules := ul } : Gt).cells x').all (·.oneCell') = true) := fun x' => ⟨Gt.cells_size _ x', Gt.cells_one _ x'⟩
  unfold Gt.val at A1 A2 ⊢
  have hcs := Hcs.out x
  generalize g.cells x = cs at A1 A2 hcs ⊢
  have H1 : Hid (cs.size = 14 ∧ cs.all (·.oneCell') = true) := hcs
  have A1' : Hid _ := A1
  have A2' : Hid _ := A2
  have A3' : Hid _ := A3
  have A4' : Hid _ := A4
  clear A1 A2 A3 A4 h hG hB hcs hr hu hr1 hu1
  obtain ⟨A, hA⟩ : ∃ A, A = w.heap.size := ⟨_, rfl⟩
  obtain ⟨W0, hW⟩ : ∃ W, W = (w.alloc (.cells cs 51)).alloc (.cells #[.int .i64 0, .int .i64 0, .int .i64 0, .slice none 0 0, .slice none 0 0, .slice none 0 0, .slice none 0 0, .int .i64 0, .slice none 0 0, .slice none 0 0, .int .i64 0, .slice none 0 0, .int .i64 0, .int .i64 0] 51) := ⟨_, rfl⟩
  have X0 : Hid (Boxed W0 A cs 51 ∧ Boxed W0 (A + 1) #[.int .i64 0, .int .i64 0, .int .i64 0, .slice none 0 0, .slice none 0 0, .slice none 0 0, .slice none 0 0, .int .i64 0, .slice none 0 0, .slice none 0 0, .int .i64 0, .slice none 0 0, .int .i64 0, .int .i64 0] 51 ∧ Below w.heap.size w W0) := by
    rw [hW, hA]
    refine ⟨(Boxed.new w _ _).more _, ?_, ((Below.refl _ _).alloc (Nat.le_refl _) _).alloc (by simp) _⟩
    have := Boxed.new (w.alloc (.cells cs 51)) #[.int .i64 0, .int .i64 0, .int .i64 0, .slice none 0 0, .slice none 0 0, .slice none 0 0, .slice none 0 0, .int .i64 0, .slice none 0 0, .slice none 0 0, .int .i64 0, .slice none 0 0, .int .i64 0, .int .i64 0] 51
    simpa using this
  have HW : Hid (W0 = _) := hW
  have HA : Hid (A = w.heap.size) := hA
  clear hW hA
  go_enter Tryz.func20, Tryz.ntmps20
  go_upto_region 1 with fail
  rw [← HW.out, ← HA.out]
  clear HW
  go_wp2_with (refine wpList_load_row rfl 51 (.tmp 3) rfl A rfl _ _ _ _ X0.out.1 Tryz.underlying51 rfl (by rw [H1.out.1]; kernel_rfl) ?_)
  refine (A1'.out _ (K.out _ X0.out.2.2)).mono ?_
  rintro e w1 ⟨rfl, q⟩
  have X1 : Hid (Boxed w1 A cs 51 ∧ Boxed w1 (A + 1) #[.int .i64 0, .int .i64 0, .int .i64 0, .slice none 0 0, .slice none 0 0, .slice none 0 0, .slice none 0 0, .int .i64 0, .slice none 0 0, .slice none 0 0, .int .i64 0, .slice none 0 0, .int .i64 0, .int .i64 0] 51 ∧ Below w.heap.size w w1) := ⟨X0.out.1.below X0.out.1.under q, X0.out.2.1.below X0.out.2.1.under q, X0.out.2.2.trans (q.mono X0.out.2.2.size)⟩
  clear q X0 A1'
  cases ok
  · obtain ⟨e1, e2⟩ := Hno.out rfl
    subst e1
    have E2 : Hid (ga = Gt.zero) := e2
    clear e2
    go_wp2_with (refine wpList_store_row rfl 51 (.tmp 6) (.tmp 12) rfl (A + 1) #[.int .i64 0, .int .i64 0, .int .i64 0, .slice none 0 0, .slice none 0 0, .slice none 0 0, .slice none 0 0, .int .i64 0, .slice none 0 0, .slice none 0 0, .int .i64 0, .slice none 0 0, .int .i64 0, .int .i64 0] rfl rfl _ _ X1.out.2.1 (by kernel_rfl) rfl (by simp [Value.oneCell']) ?_)
    refine bodyPost_ret (results_row_tmp Tryz.results20 _ _ (A + 1) _ #[.int .i64 0, .int .i64 0, .int .i64 0, .slice none 0 0, .slice none 0 0, .slice none 0 0, .slice none 0 0, .int .i64 0, .slice none 0 0, .slice none 0 0, .int .i64 0, .slice none 0 0, .int .i64 0, .int .i64 0] _ _ (.bool false) rfl rfl (setRow_heap w1 (A + 1) _ _ _ _ X1.out.2.1) Tryz.underlying51 rfl (by kernel_rfl)) rfl ⟨⟨_, rfl, ?_⟩, below_setRow X1.out.2.2 (by rw [HA.out]; omega) _⟩
    rw [E2.out]
    exact gtIn_zero _ _ (by simp; have := X1.out.2.2.size; omega)
  have HY : Hid _ := Hyes.out rfl
  clear Hyes
  clear Hno
  go_wp2_with (refine wpList_load_row rfl 51 (.tmp 3) rfl A rfl _ _ _ _ X1.out.1 Tryz.underlying51 rfl (by rw [H1.out.1]; kernel_rfl) ?_)
  refine (A2'.out _ (K.out _ X1.out.2.2)).mono ?_
  rintro e w2 ⟨⟨x', f, vs, rs, rfl, -, gw, fi, fa⟩, q⟩
  have hu1 := X1.out.2.1.under
  have X2 : Hid (Boxed w2 A cs 51 ∧ Boxed w2 (A + 1) #[.int .i64 0, .int .i64 0, .int .i64 0, .slice none 0 0, .slice none 0 0, .slice none 0 0, .slice none 0 0, .int .i64 0, .slice none 0 0, .slice none 0 0, .int .i64 0, .slice none 0 0, .int .i64 0, .int .i64 0] 51 ∧ Below w.heap.size w w2) := ⟨X1.out.1.below X1.out.1.under q, X1.out.2.1.below X1.out.2.1.under q, X1.out.2.2.trans (q.mono X1.out.2.2.size)⟩
  have M2 : Hid (GtW w2 x' f g ∧ f.In (A + 2) w2.heap.size ∧ f.Apart) := ⟨gw, fi.wide (by omega) (Nat.le_refl _), fa⟩
  clear gw fi fa q X1 A2' hu1
  have hc' := Hcs.out x'
  have Gp' : Hid _ := fun W B => Gp.out W B x'
  obtain ⟨c', hce⟩ : ∃ c', g.cells x' = c' := ⟨_, rfl⟩
  have HC : Hid (g.cells x' = c') := hce
  rw [hce] at hc' Gp' ⊢
  clear hce
  have H2 : Hid (c'.size = 14 ∧ c'.all (·.oneCell') = true) := hc'
  clear hc' Gp Hcs
  have N : Hid (Boxed (w2.alloc (.cells #[.int .i64 0, .int .i64 0, .int .i64 0, .slice none 0 0, .slice none 0 0, .slice none 0 0, .slice none 0 0, .int .i64 0, .slice none 0 0, .slice none 0 0, .int .i64 0, .slice none 0 0, .int .i64 0, .int .i64 0] 51)) w2.heap.size #[.int .i64 0, .int .i64 0, .int .i64 0, .slice none 0 0, .slice none 0 0, .slice none 0 0, .slice none 0 0, .int .i64 0, .slice none 0 0, .slice none 0 0, .int .i64 0, .slice none 0 0, .int .i64 0, .int .i64 0] 51) := Boxed.new _ _ _
  have bN : Hid (Below w2.heap.size w2 ((w2.alloc (.cells #[.int .i64 0, .int .i64 0, .int .i64 0, .slice none 0 0, .slice none 0 0, .slice none 0 0, .slice none 0 0, .int .i64 0, .slice none 0 0, .slice none 0 0, .int .i64 0, .slice none 0 0, .int .i64 0, .int .i64 0] 51)).setRow w2.heap.size c')) := below_setRow ((Below.refl _ _).alloc (Nat.le_refl _) _) (Nat.le_refl _) _
  have hB3 : Hid (Boxed ((w2.alloc (.cells #[.int .i64 0, .int .i64 0, .int .i64 0, .slice none 0 0, .slice none 0 0, .slice none 0 0, .slice none 0 0, .int .i64 0, .slice none 0 0, .slice none 0 0, .int .i64 0, .slice none 0 0, .int .i64 0, .int .i64 0] 51)).setRow w2.heap.size c') w2.heap.size c' 51) := setRow_heap _ _ _ _ _ _ N.out
  go_upto_region 4 with (refine wpList_store_row rfl 51 (.tmp 8) (.tmp 14) rfl w2.heap.size c' rfl rfl _ _ N.out (by rw [H2.out.1]; kernel_rfl) (by rw [H2.out.1]; rfl) H2.out.2 ?_)
  try simp only [Act.put]
  have O3 : Hid (A + 2 ≤ w2.heap.size) := X2.out.2.1.under
  have X3 : Hid (Boxed ((w2.alloc (.cells #[.int .i64 0, .int .i64 0, .int .i64 0, .slice none 0 0, .slice none 0 0, .slice none 0 0, .slice none 0 0, .int .i64 0, .slice none 0 0, .slice none 0 0, .int .i64 0, .slice none 0 0, .int .i64 0, .int .i64 0] 51)).setRow w2.heap.size c') A cs 51 ∧ Boxed ((w2.alloc (.cells #[.int .i64 0, .int .i64 0, .int .i64 0, .slice none 0 0, .slice none 0 0, .slice none 0 0, .slice none 0 0, .int .i64 0, .slice none 0 0, .slice none 0 0, .int .i64 0, .slice none 0 0, .int .i64 0, .int .i64 0] 51)).setRow w2.heap.size c') (A + 1) #[.int .i64 0, .int .i64 0, .int .i64 0, .slice none 0 0, .slice none 0 0, .slice none 0 0, .slice none 0 0, .int .i64 0, .slice none 0 0, .slice none 0 0, .int .i64 0, .slice none 0 0, .int .i64 0, .int .i64 0] 51 ∧ Below w.heap.size w ((w2.alloc (.cells #[.int .i64 0, .int .i64 0, .int .i64 0, .slice none 0 0, .slice none 0 0, .slice none 0 0, .slice none 0 0, .int .i64 0, .slice none 0 0, .slice none 0 0, .int .i64 0, .slice none 0 0, .int .i64 0, .int .i64 0] 51)).setRow w2.heap.size c')) := ⟨X2.out.1.below X2.out.1.under bN.out, X2.out.2.1.below X2.out.2.1.under bN.out, X2.out.2.2.trans (bN.out.mono X2.out.2.2.size)⟩
  have M3 : Hid (GtW ((w2.alloc (.cells #[.int .i64 0, .int .i64 0, .int .i64 0, .slice none 0 0, .slice none 0 0, .slice none 0 0, .slice none 0 0, .int .i64 0, .slice none 0 0, .slice none 0 0, .int .i64 0, .slice none 0 0, .int .i64 0, .int .i64 0] 51)).setRow w2.heap.size c') x' f g ∧ f.In (A + 2) w2.heap.size ∧ f.Apart) := ⟨M2.out.1.below bN.out, M2.out.2⟩
  clear N bN X2 M2
  generalize (w2.alloc (.cells #[.int .i64 0, .int .i64 0, .int .i64 0, .slice none 0 0, .slice none 0 0, .slice none 0 0, .slice none 0 0, .int .i64 0, .slice none 0 0, .slice none 0 0, .int .i64 0, .slice none 0 0, .int .i64 0, .int .i64 0] 51)).setRow w2.heap.size c' = w3 at hB3 X3 M3 ⊢
  generalize w2.heap.size = B at hB3 O3 M3 ⊢
  have Ans : Hid (∀ W, (∀ k, k ≠ A + 1 → W.heap[k]? = w3.heap[k]?) → w3.heap.size ≤ W.heap.size → GtIn w.heap.size W.heap.size W (.agg c') g) := fun W h1 h2 => by
    have m := M3.out
    refine ⟨x', f, by rw [← HC.out]; rfl, m.1.keep m.2.1 h2 (fun k k1 k2 => h1 k (by omega)), m.2.1.wide (by rw [HA.out]; omega) ?_, m.2.2, Nat.le_refl _⟩
    have := hB3.out.under
    omega
  obtain ⟨Y0, Y1⟩ := HY.out
  have HY0 : Hid _ := Y0
  have HY1 : Hid _ := Y1
  clear Y0 Y1 HY
  go_wp2_with fail
  refine (A3'.out _ (Kr.out _ X3.out.2.2).1).mono ?_
  rintro e w4 ⟨rfl, q⟩
  have X4 : Hid (Boxed w4 A cs 51 ∧ Boxed w4 (A + 1) #[.int .i64 0, .int .i64 0, .int .i64 0, .slice none 0 0, .slice none 0 0, .slice none 0 0, .slice none 0 0, .int .i64 0, .slice none 0 0, .slice none 0 0, .int .i64 0, .slice none 0 0, .int .i64 0, .int .i64 0] 51 ∧ Below w.heap.size w w4 ∧ Boxed w4 B c' 51 ∧ Below w3.heap.size w3 w4) := ⟨X3.out.1.below X3.out.1.under q, X3.out.2.1.below X3.out.2.1.under q, X3.out.2.2.trans (q.mono X3.out.2.2.size), hB3.out.below hB3.out.under q, q⟩
  have O4 : Hid (B < w3.heap.size) := hB3.out.under
  have M4 : Hid (GtW w4 x' f g ∧ f.In (A + 2) B ∧ f.Apart) := ⟨M3.out.1.below q, M3.out.2⟩
  clear q A3' X3 hB3 M3 Ans
  have Ans : Hid (∀ w4' W, Below w4.heap.size w4 w4' → (∀ k, k ≠ A + 1 → W.heap[k]? = w4'.heap[k]?) → w4'.heap.size ≤ W.heap.size → GtIn w.heap.size W.heap.size W (.agg c') g) := fun w4' W q h1 h2 => by
    have m := M4.out
    have hb := X4.out.2.2.2.1.under
    refine ⟨x', f, by rw [← HC.out]; rfl, (m.1.below q).keep m.2.1 h2 (fun k k1 k2 => h1 k (by omega)), m.2.1.wide (by rw [HA.out]; omega) ?_, m.2.2, Nat.le_refl _⟩
    have := q.size
    omega
  cases o2
  case false =>
    obtain ⟨e1, e2⟩ := HY0.out rfl
    subst e1
    have E2 : Hid (ga = g) := e2
    clear e2 HY0 HY1 A4' A5 A6
    go_upto_region 5 with fail
    go_wp2_with (first | (refine wpList_load_row rfl 51 (.tmp 8) rfl B rfl _ _ _ _ X4.out.2.2.2.1 Tryz.underlying51 rfl (by rw [H2.out.1]; kernel_rfl) ?_) | (refine wpList_store_row rfl 51 (.tmp 6) (.tmp 23) rfl (A + 1) c' rfl rfl _ _ X4.out.2.1 (by rw [H2.out.1]; kernel_rfl) (by rw [H2.out.1]; rfl) H2.out.2 ?_))
    refine bodyPost_ret (results_row_tmp Tryz.results20 _ _ (A + 1) _ c' _ _ (.bool false) rfl rfl (setRow_heap w4 (A + 1) _ _ _ _ X4.out.2.1) Tryz.underlying51 rfl (by rw [H2.out.1]; kernel_rfl)) rfl ⟨⟨_, rfl, ?_⟩, below_setRow X4.out.2.2.1 (by rw [HA.out]; omega) _⟩
    rw [E2.out]
    exact Ans.out w4 _ (Below.refl _ _) (fun k hk => setRow_other _ _ _ _ hk) (by simp)
  go_wp2_with fail
  refine (A4'.out _ (Kr.out _ X4.out.2.2.1).2).mono ?_
  rintro e w5 ⟨rfl, q⟩
  have X5 : Hid (Boxed w5 A cs 51 ∧ Boxed w5 (A + 1) #[.int .i64 0, .int .i64 0, .int .i64 0, .slice none 0 0, .slice none 0 0, .slice none 0 0, .slice none 0 0, .int .i64 0, .slice none 0 0, .slice none 0 0, .int .i64 0, .slice none 0 0, .int .i64 0, .int .i64 0] 51 ∧ Below w.heap.size w w5 ∧ Boxed w5 B c' 51 ∧ Below w4.heap.size w4 w5) := ⟨X4.out.1.below X4.out.1.under q, X4.out.2.1.below X4.out.2.1.under q, X4.out.2.2.1.trans (q.mono X4.out.2.2.1.size), X4.out.2.2.2.1.below X4.out.2.2.2.1.under q, q⟩
  clear q A4'
  cases o3
  case false =>
    obtain ⟨e1, e2⟩ := HY0.out rfl
    subst e1
    have E2 : Hid (ga = g) := e2
    clear e2 HY0 HY1 A5 A6
    go_upto_region 5 with fail
    go_wp2_with (first | (refine wpList_load_row rfl 51 (.tmp 8) rfl B rfl _ _ _ _ X5.out.2.2.2.1 Tryz.underlying51 rfl (by rw [H2.out.1]; kernel_rfl) ?_) | (refine wpList_store_row rfl 51 (.tmp 6) (.tmp 23) rfl (A + 1) c' rfl rfl _ _ X5.out.2.1 (by rw [H2.out.1]; kernel_rfl) (by rw [H2.out.1]; rfl) H2.out.2 ?_))
    refine bodyPost_ret (results_row_tmp Tryz.results20 _ _ (A + 1) _ c' _ _ (.bool false) rfl rfl (setRow_heap w5 (A + 1) _ _ _ _ X5.out.2.1) Tryz.underlying51 rfl (by rw [H2.out.1]; kernel_rfl)) rfl ⟨⟨_, rfl, ?_⟩, below_setRow X5.out.2.2.1 (by rw [HA.out]; omega) _⟩
    rw [E2.out]
    exact Ans.out w5 _ X5.out.2.2.2.2 (fun k hk => setRow_other _ _ _ _ hk) (by simp)
  obtain ⟨e1, e2⟩ := HY1.out rfl
  subst e1
  have E2 : Hid (ga = { g with routes := rl, rules := ul }) := e2
  clear e2 HY0 HY1 Ans
  go_upto_region 6 with fail
  go_wp2_with fail
  refine (A5.out _ (Kr.out _ X5.out.2.2.1).1).mono ?_
  rintro e w6 ⟨p, c, rfl, r1, q⟩
  have X6 : Hid (Boxed w6 A cs 51 ∧ Boxed w6 (A + 1) #[.int .i64 0, .int .i64 0, .int .i64 0, .slice none 0 0, .slice none 0 0, .slice none 0 0, .slice none 0 0, .int .i64 0, .slice none 0 0, .slice none 0 0, .int .i64 0, .slice none 0 0, .int .i64 0, .int .i64 0] 51 ∧ Below w.heap.size w w6 ∧ Boxed w6 B c' 51) := ⟨X5.out.1.below X5.out.1.under q, X5.out.2.1.below X5.out.2.1.under q, X5.out.2.2.1.trans (q.mono X5.out.2.2.1.size), X5.out.2.2.2.1.below X5.out.2.2.2.1.under q⟩
  have hB5 : Hid (B < w5.heap.size) := X5.out.2.2.2.1.under
  have M6 : Hid (GtW w6 { x' with a1 := p, c1 := c } { f with b1 := w5.heap.size, t1 := w6.heap.size } { g with routes := rl } ∧ ({ f with b1 := w5.heap.size, t1 := w6.heap.size } : Gf).In (A + 2) w6.heap.size ∧ ({ f with b1 := w5.heap.size, t1 := w6.heap.size } : Gf).Apart) := ⟨((M4.out.1.below X5.out.2.2.2.2).below q).rep1 (by have := RtsW.of_row r1; exact this), M4.out.2.1.rep1 (by have := hB5.out; omega) (by have := O3.out; have := hB5.out; omega) q.size, M4.out.2.2.rep1 M4.out.2.1 (by have := hB5.out; omega)⟩
  have F6 : Hid (f.In (A + 2) B ∧ B < w5.heap.size ∧ w5.heap.size ≤ w6.heap.size) := ⟨M4.out.2.1, hB5.out, q.size⟩
  clear r1 q X5 A5 M4 X4 O4 hB5
  go_wp2_with fail
  refine (A6.out _ (Kr.out _ X6.out.2.2.1).2).mono ?_
  rintro e w7 ⟨p2, c2, rfl, r1, q⟩
  have X7 : Hid (Boxed w7 A cs 51 ∧ Boxed w7 (A + 1) #[.int .i64 0, .int .i64 0, .int .i64 0, .slice none 0 0, .slice none 0 0, .slice none 0 0, .slice none 0 0, .int .i64 0, .slice none 0 0, .slice none 0 0, .int .i64 0, .slice none 0 0, .int .i64 0, .int .i64 0] 51 ∧ Below w.heap.size w w7 ∧ Boxed w7 B c' 51) := ⟨X6.out.1.below X6.out.1.under q, X6.out.2.1.below X6.out.2.1.under q, X6.out.2.2.1.trans (q.mono X6.out.2.2.1.size), X6.out.2.2.2.below X6.out.2.2.2.under q⟩
  have M7 : Hid (GtW w7 { x' with a1 := p, c1 := c, a2 := p2, c2 := c2 } { f with b1 := w5.heap.size, t1 := w6.heap.size, b2 := w6.heap.size, t2 := w7.heap.size } { g with routes := rl, rules := ul } ∧ ({ f with b1 := w5.heap.size, t1 := w6.heap.size, b2 := w6.heap.size, t2 := w7.heap.size } : Gf).In (A + 2) w7.heap.size ∧ ({ f with b1 := w5.heap.size, t1 := w6.heap.size, b2 := w6.heap.size, t2 := w7.heap.size } : Gf).Apart) := ⟨(M6.out.1.below q).rep2 (by have := RusW.of_row r1; exact this), M6.out.2.1.rep2 (Nat.le_refl _) (by have := F6.out; have := O3.out; omega) q.size, M6.out.2.2.rep2 M6.out.2.1 (Nat.le_refl _)⟩
  have F7 : Hid (f.In (A + 2) B ∧ B < w5.heap.size ∧ w5.heap.size ≤ w6.heap.size ∧ w6.heap.size ≤ w7.heap.size) := ⟨F6.out.1, F6.out.2.1, F6.out.2.2, q.size⟩
  clear r1 q X6 A6 M6 F6
  obtain ⟨⟨d3, d4⟩, hp⟩ := Gp'.out w7 B p c p2 c2 X7.out.2.2.2
  have f3 := X7.out.2.2.2.ice 3
  have f4 := X7.out.2.2.2.ice 4
  have hBs := X7.out.2.2.2.under
  have Mb : Hid (∀ W, (∀ k, k ≠ B → k ≠ A + 1 → k < w7.heap.size → W.heap[k]? = w7.heap[k]?) → w7.heap.size ≤ W.heap.size → GtW W { x' with a1 := p, c1 := c, a2 := p2, c2 := c2 } { f with b1 := w5.heap.size, t1 := w6.heap.size, b2 := w6.heap.size, t2 := w7.heap.size } { g with routes := rl, rules := ul }) := fun W h1 h2 => by
    obtain ⟨i3, i4, i5, i6⟩ := F7.out
    have oo := O3.out
    obtain ⟨g1, g2, g3, g4, g5, g6, g7⟩ := M7.out.1
    have kk : ∀ b t, A + 2 ≤ b → t ≤ B → ∀ k, b ≤ k → k < t → W.heap[k]? = w7.heap[k]? := fun b t hb ht k k1 k2 => h1 k (by omega) (by omega) (by omega)
    exact ⟨g1.keep h2 (fun k k1 k2 => h1 k (by have : w5.heap.size ≤ k := k1; omega) (by have : w5.heap.size ≤ k := k1; omega) (by have : k < w6.heap.size := k2; omega)), g2.keep h2 (fun k k1 k2 => h1 k (by have : w6.heap.size ≤ k := k1; omega) (by have : w6.heap.size ≤ k := k1; omega) k2), g3.keep h2 (kk f.b3 f.t3 i3.l3 i3.h3), g4.keep h2 (kk f.b4 f.t4 i3.l4 i3.h4), g5.keep h2 (kk f.b5 f.t5 i3.l5 i3.h5), g6.keep h2 (kk f.b6 f.t6 i3.l6 i3.h6), g7.keep h2 (kk f.b7 f.t7 i3.l7 i3.h7)⟩
  have X8 : Hid (Boxed ((w7.setCell ⟨B, 3, none⟩ (.slice p rl.length c)).setCell ⟨B, 4, none⟩ (.slice p2 ul.length c2)) A cs 51 ∧ Boxed ((w7.setCell ⟨B, 3, none⟩ (.slice p rl.length c)).setCell ⟨B, 4, none⟩ (.slice p2 ul.length c2)) (A + 1) #[.int .i64 0, .int .i64 0, .int .i64 0, .slice none 0 0, .slice none 0 0, .slice none 0 0, .slice none 0 0, .int .i64 0, .slice none 0 0, .slice none 0 0, .int .i64 0, .slice none 0 0, .int .i64 0, .int .i64 0] 51 ∧ Below w.heap.size w ((w7.setCell ⟨B, 3, none⟩ (.slice p rl.length c)).setCell ⟨B, 4, none⟩ (.slice p2 ul.length c2)) ∧ Boxed ((w7.setCell ⟨B, 3, none⟩ (.slice p rl.length c)).setCell ⟨B, 4, none⟩ (.slice p2 ul.length c2)) B (({ g with routes := rl, rules := ul } : Gt).cells { x' with a1 := p, c1 := c, a2 := p2, c2 := c2 }) 51 ∧ (∀ k, k ≠ B → ((w7.setCell ⟨B, 3, none⟩ (.slice p rl.length c)).setCell ⟨B, 4, none⟩ (.slice p2 ul.length c2)).heap[k]? = w7.heap[k]?) ∧ ((w7.setCell ⟨B, 3, none⟩ (.slice p rl.length c)).setCell ⟨B, 4, none⟩ (.slice p2 ul.length c2)).heap.size = w7.heap.size) := ⟨(X7.out.1.far (by have := O3.out; omega) _ _).far (by have := O3.out; omega) _ _, (X7.out.2.1.far (by have := O3.out; omega) _ _).far (by have := O3.out; omega) _ _, (X7.out.2.2.1.setCell (by show w.heap.size ≤ B; have := O3.out; rw [← HA.out]; omega) _).setCell (by show w.heap.size ≤ B; have := O3.out; rw [← HA.out]; omega) _, hp, fun k hk => by rw [Below.heap_setCell _ _ _ _ hk, Below.heap_setCell _ _ _ _ hk], by simp [World.setCell]⟩
  go_upto_region 7 with fail
  generalize (w7.setCell ⟨B, 3, none⟩ (.slice p rl.length c)).setCell ⟨B, 4, none⟩ (.slice p2 ul.length c2) = w8 at X8 ⊢
  clear d3 d4 f3 f4 hBs hp X7 Gp'
  have hc2 := Hc2.out { x' with a1 := p, c1 := c, a2 := p2, c2 := c2 }
  obtain ⟨c3, hce⟩ : ∃ c3, ({ g with routes := rl, rules := ul } : Gt).cells { x' with a1 := p, c1 := c, a2 := p2, c2 := c2 } = c3 := ⟨_, rfl⟩
  have HC3 : Hid (({ g with routes := rl, rules := ul } : Gt).cells { x' with a1 := p, c1 := c, a2 := p2, c2 := c2 } = c3) := hce
  rw [hce] at X8 hc2
  have H3 : Hid (c3.size = 14 ∧ c3.all (·.oneCell') = true) := hc2
  clear hce hc2 Hc2
  go_wp2_with (first | (refine wpList_load_row rfl 51 (.tmp 8) rfl B rfl _ _ _ _ X8.out.2.2.2.1 Tryz.underlying51 rfl (by rw [H3.out.1]; kernel_rfl) ?_) | (refine wpList_store_row rfl 51 (.tmp 6) (.tmp 30) rfl (A + 1) c3 rfl rfl _ _ X8.out.2.1 (by rw [H3.out.1]; kernel_rfl) (by rw [H3.out.1]; rfl) H3.out.2 ?_))
  refine bodyPost_ret (results_row_tmp Tryz.results20 _ _ (A + 1) _ c3 _ _ (.bool true) rfl rfl (setRow_heap w8 (A + 1) _ _ _ _ X8.out.2.1) Tryz.underlying51 rfl (by rw [H3.out.1]; kernel_rfl)) rfl ⟨⟨_, rfl, ?_⟩, below_setRow X8.out.2.2.1 (by rw [HA.out]; omega) _⟩
  rw [E2.out]
  have hz : w7.heap.size ≤ (w8.setRow (A + 1) c3).heap.size := by have := X8.out.2.2.2.2.2; simp; omega
  refine ⟨_, _, by rw [← HC3.out]; rfl, Mb.out _ (fun k h1 h2 _ => (setRow_other _ _ _ _ h2).trans (X8.out.2.2.2.2.1 k h1)) hz, M7.out.2.1.wide (by rw [HA.out]; omega) hz, M7.out.2.2, Nat.le_refl _⟩
end Go.Proofs.YtaojbmhodpffiaaGreat
