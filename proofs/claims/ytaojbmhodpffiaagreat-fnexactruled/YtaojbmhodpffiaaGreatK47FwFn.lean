import Derived.Test.YtaojbmhodpffiaaGreatK45OneN
import Derived.Test.YtaojbmhodpffiaaGreatK14FsFn
import Derived.Test.YtaojbmhodpffiaaGreatK9StepRow
import Derived.Shelf.Abstract
import Derived.Laws.ResultCell
import Derived.Laws.CopyOwn
/-
  The walk of the program's isPlace. By the verifier.
-/
namespace Go.Proofs.YtaojbmhodpffiaaGreat
open Go.RowKit

set_option maxHeartbeats 1600000 in
theorem implPlace (n : Nat) (p : Int) (w : World) (hn : n ≤ 1048576) :
    Calls Tryz.prog 103 #[.int .i64 (n : Int), .int .i64 p] w fun e w' => e = .returned (.bool (inB 0 ((n : Int) - 1) p)) ∧ w' = w.alloc (.cells #[.int .i64 p] 2) := by
  have A := fun B w h => implUpTo1 ((n : Int) - 1) p w B h
  generalize inB 0 ((n : Int) - 1) p = y at A ⊢
  have A' : Hid _ := A
  clear A
  have q1 : -9223372036854775808 ≤ (n : Int) - 1 := by omega
  have q2 : (n : Int) - 1 ≤ 9223372036854775807 := by omega
  go_enter Tryz.func103, Tryz.ntmps103
  go_wp2_with fail
  refine (A'.out _ _ (by simp)).mono ?_
  rintro e w' ⟨rfl, rfl⟩
  go_wp2
  go_ret
  exact ⟨rfl, rfl⟩
end Go.Proofs.YtaojbmhodpffiaaGreat

/-
  The walks of slices.IndexFunc and slices.ContainsFunc on flows, for whatever function tells yes or no; of the program's fromOne on lists, of the rows' and payers' own methods, and of FairOk. By the verifier.
-/
namespace Go.Proofs.YtaojbmhodpffiaaGreat
open Go.RowKit Go.Shelf

theorem ones_of (most : Int) (l : List Int) : (l.all (inB 0 most) && !decide ((0 : Int) ∈ l)) = l.all (inB 1 most) := by
  induction l with
  | nil => rfl
  | cons x r ih =>
    rw [List.all_cons, List.all_cons, ← ih, Bool.eq_iff_iff]
    simp only [Bool.and_eq_true, inB_true, Bool.not_eq_true', decide_eq_false_iff_not, List.mem_cons, not_or]
    constructor
    · rintro ⟨⟨h1, h2⟩, h3, h4⟩
      exact ⟨by omega, h2, h4⟩
    · rintro ⟨h1, h2, h3⟩
      exact ⟨⟨by omega, h2⟩, by omega, h3⟩
set_option maxHeartbeats 1600000 in
theorem implFromOneL (most : Int) (a : Option Addr) (cap : Nat) (l : List Int) (w : World) (hT : l.length ≤ 1048576) (h : Hid (IntsAt w a l)) :
    Calls Tryz.prog 102 #[.int .i64 most, .slice a l.length cap] w fun e w' => e = .returned (.bool (l.all (inB 1 most))) ∧ w' = w := by
  have A1 := fun (_ : Nat) => implUpTo most a cap l w hT h
  have A2 := fun (_ : Nat) => implHasN a cap l 0 w hT h
  have H := ones_of most l
  generalize decide ((0 : Int) ∈ l) = z at A2 H
  generalize l.all (inB 0 most) = y at A1 H
  generalize l.all (inB 1 most) = x at H ⊢
  generalize l.length = n at A1 A2 ⊢
  have A1' : Hid _ := A1
  have A2' : Hid _ := A2
  have HH : Hid _ := H
  clear A1 A2 H h hT
  go_enter Tryz.func102, Tryz.ntmps102
  go_wp2_with fail
  refine (A1'.out 0).mono ?_
  rintro e w1 ⟨rfl, rfl⟩
  cases y
  · go_wp2
    go_ret
    exact ⟨ret_bool (by rw [← HH.out]; rfl), rfl⟩
  go_wp2_with fail
  refine (A2'.out 0).mono ?_
  rintro e w2 ⟨rfl, rfl⟩
  go_wp2
  go_ret
  exact ⟨ret_bool (by rw [← HH.out]; cases z <;> rfl), rfl⟩
/-- A flow as one that embeds its row. -/
def Fw.pay (x : Fw) (a : Option Addr) (c : Nat) : Value := .agg #[.slice a x.sizes.length c, .int .i64 x.weight, .int .i64 x.finish]

theorem implSizesOk (a : Option Addr) (cap : Nat) (l : List Int) (w : World) (hT : l.length ≤ 1048576) (h : Hid (IntsAt w a l)) :
    Calls Tryz.prog 174 #[.slice a l.length cap] w fun e w' => e = .returned (.bool (inB 0 40 (l.length : Int) && l.all (inB 1 2000))) ∧ w' = w := by
  have A := fun (_ : Nat) => implFromOneL 2000 a cap l w hT h
  generalize l.all (inB 1 2000) = y at A ⊢
  generalize l.length = n at A ⊢
  have A' : Hid _ := A
  clear A h hT
  by_cases hn : (n : Int) ≤ 40
  · have e1 : inB 0 40 (n : Int) = true := by rw [inB_true]; omega
    rw [e1]
    clear e1
    go_enter Tryz.func174, Tryz.ntmps174
    go_wp2_with fail
    refine (A'.out 0).mono ?_
    rintro e w' ⟨rfl, rfl⟩
    go_wp2
    go_ret
    exact ⟨by simp, rfl⟩
  · have e1 : inB 0 40 (n : Int) = false := by rw [inB_false]; omega
    rw [e1]
    clear e1
    go_enter Tryz.func174, Tryz.ntmps174
    go_wp2
    go_ret
    exact ⟨by simp, rfl⟩
theorem implPayerOf (x : Fw) (a : Option Addr) (c : Nat) (w : World) :
    Calls Tryz.prog 147 #[x.val a c] w fun e w' => e = .returned (x.pay a c) ∧ Below w.heap.size w w' := by
  obtain ⟨t, u, fl⟩ := x
  simp only [Fw.val, Fw.pay]
  generalize fl.length = n
  obtain ⟨W0, hW0⟩ : ∃ W0, W0 = (w.alloc (.cells #[.int .i64 t, .int .i64 u, .slice a n c] 86)).alloc (.cells #[.slice none 0 0, .int .i64 0, .int .i64 0] 179) := ⟨_, rfl⟩
  have X : Hid (Boxed W0 w.heap.size #[.int .i64 t, .int .i64 u, .slice a n c] 86 ∧ Boxed W0 (w.heap.size + 1) #[.slice none 0 0, .int .i64 0, .int .i64 0] 179 ∧ Below w.heap.size w W0) := by
    rw [hW0]
    refine ⟨(Boxed.new w _ _).more _, ?_, ((Below.refl _ _).alloc (Nat.le_refl _) _).alloc (by simp) _⟩
    have := Boxed.new (w.alloc (.cells #[.int .i64 t, .int .i64 u, .slice a n c] 86)) #[.slice none 0 0, .int .i64 0, .int .i64 0] 179
    simpa using this
  have HW : Hid (W0 = _) := hW0
  clear hW0
  have c0 : W0.cell? ⟨w.heap.size, 0, none⟩ = some (.int .i64 t) := X.out.1.cell 0 rfl
  have c1 : W0.cell? ⟨w.heap.size, 1, none⟩ = some (.int .i64 u) := X.out.1.cell 1 rfl
  have c2 : W0.cell? ⟨w.heap.size, 2, none⟩ = some (.slice a n c) := X.out.1.cell 2 rfl
  go_enter Tryz.func147, Tryz.ntmps147
  go_upto_region 1 with fail
  rw [← HW.out]
  go_wp2_with (refine wpList_store_row rfl 179 (.tmp 2) (.tmp 9) rfl (w.heap.size + 1) _ rfl rfl _ _ X.out.2.1 (by kernel_rfl) rfl (by simp [Value.oneCell']) ?_)
  exact bodyPost_ret (results_cell_row Tryz.results147 _ _ (w.heap.size + 1) _ _ _ _ rfl (setRow_heap _ (w.heap.size + 1) _ _ _ _ X.out.2.1) Tryz.underlying179 rfl (by kernel_rfl)) rfl ⟨rfl, below_setRow X.out.2.2 (by omega) _⟩

set_option maxHeartbeats 3200000 in
theorem implPayerOk (x : Fw) (a : Option Addr) (c : Nat) (w : World) (hT : x.sizes.length ≤ 1048576) (H : IntsAt w a x.sizes) :
    Calls Tryz.prog 148 #[x.pay a c] w fun e w' => e = .returned (.bool x.ok) ∧ Below w.heap.size w w' := by
  have Hok : Hid (x.ok = (inB 1 10 x.weight && (inB 0 1125899906842624 x.finish && (inB 0 40 (x.sizes.length : Int) && x.sizes.all (inB 1 2000))))) := rfl
  have A1 := fun B w hh => implFromOne 10 x.weight B w hh
  have A2 := fun B w hh => implUpTo1 1125899906842624 x.finish w B hh
  have A3 := fun w hh => implSizesOk a c x.sizes w hT hh
  generalize x.ok = ok at Hok ⊢
  have HI : Hid (∀ w', Below w.heap.size w w' → IntsAt w' a x.sizes) := fun w' g => H.below g
  generalize (inB 0 40 (x.sizes.length : Int) && x.sizes.all (inB 1 2000)) = b3 at A3 Hok
  obtain ⟨t, u, fl⟩ := x
  simp only [Fw.pay] at Hok A1 A2 A3 HI ⊢
  generalize fl.length = n at A3 ⊢
  generalize inB 1 10 t = b1 at A1 Hok
  generalize inB 0 1125899906842624 u = b2 at A2 Hok
  have A1' : Hid _ := A1
  have A2' : Hid _ := A2
  have A3' : Hid _ := A3
  clear A1 A2 A3 H hT
  go_enter Tryz.func148, Tryz.ntmps148
  cases b1
  · go_wp2_with fail
    refine (A1'.out _ _ (by simp)).mono ?_
    rintro e w' ⟨rfl, rfl⟩
    go_wp2
    go_ret
    exact ⟨ret_bool (by rw [Hok.out]; rfl), ((Below.refl _ _).alloc (Nat.le_refl _) _).alloc (by simp) _⟩
  cases b2
  · go_wp2_with fail
    refine (A1'.out _ _ (by simp)).mono ?_
    rintro e w' ⟨rfl, rfl⟩
    go_wp2_with fail
    refine (A2'.out _ _ (by simp)).mono ?_
    rintro e w' ⟨rfl, rfl⟩
    go_wp2
    go_ret
    exact ⟨ret_bool (by rw [Hok.out]; rfl), (((Below.refl _ _).alloc (Nat.le_refl _) _).alloc (by simp) _).alloc (by simp; omega) _⟩
  go_wp2_with fail
  refine (A1'.out _ _ (by simp)).mono ?_
  rintro e w' ⟨rfl, rfl⟩
  go_wp2_with fail
  refine (A2'.out _ _ (by simp)).mono ?_
  rintro e w' ⟨rfl, rfl⟩
  go_wp2_with fail
  refine (A3'.out _ (HI.out _ ((((Below.refl _ _).alloc (Nat.le_refl _) _).alloc (by simp) _).alloc (by simp; omega) _))).mono ?_
  rintro e w' ⟨rfl, rfl⟩
  go_wp2
  go_ret
  exact ⟨ret_bool (by rw [Hok.out]; rfl), (((Below.refl _ _).alloc (Nat.le_refl _) _).alloc (by simp) _).alloc (by simp; omega) _⟩

/-- A function that tells yes or no of a flow, as long as all that lay lies. -/
structure FwTells (W0 : World) (g : FuncId) (fs cb : Array Value) (p : Fw → Bool) : Prop where
  enters : Enters Tryz.prog g
  tells : ∀ (W : World) (ak : Option Addr) (ck : Nat) (h : Fw), Below W0.heap.size W0 W → h.sizes.length ≤ 1048576 → IntsAt W ak h.sizes → Calls Tryz.prog g (fs ++ #[h.val ak ck] ++ cb) W fun e w' => e = .returned (.bool (p h)) ∧ Below W.heap.size W w'

set_option maxHeartbeats 1600000 in
set_option maxRecDepth 100000 in
theorem implIndexF (a : Option Addr) (cap : Nat) (l : List Fw) (g : FuncId) (fs cb : Array Value) (p : Fw → Bool) (w : World) (hT : l.length ≤ 1048576) (hin : ∀ k, k < l.length → (fwAt l k).sizes.length ≤ 1048576) (h : Hid (FwsAt w a l)) (ht : Hid (FwTells w g fs cb p)) :
    Calls Tryz.prog 173 #[.slice a l.length cap, .func (.func g) fs cb] w fun e w' => e = .returned (.int .i64 (if l.findIdx p < l.length then (l.findIdx p : Int) else -1)) ∧ Below w.heap.size w w' := by
  have eg : ∀ args w, (callFunc g args).run Tryz.prog w = .ok (.enter g args) w := ht.out.enters
  have Hin : Hid (∀ k, k < l.length → (fwAt l k).sizes.length ≤ 1048576) := hin
  obtain ⟨len, hlen⟩ : ∃ n, l.length = n := ⟨_, rfl⟩
  have Hlen : Hid (l.length = len) := hlen
  obtain ⟨N, hN⟩ : ∃ N, l.findIdx p = N := ⟨_, rfl⟩
  have HN : Hid (l.findIdx p = N) := hN
  have hNl : N ≤ len := by rw [← hN, ← hlen]; exact List.findIdx_le_length
  rw [hlen] at hT ⊢
  rw [hN]
  clear hlen hN hin
  go_enter Tryz.func173, Tryz.ntmps173
  go_wp2
  go_loopw [8] (fun i wr => ∃ k : Nat, k ≤ N ∧ i = .int .i64 k ∧ Hid (Below w.heap.size w wr)) (fun i _ => len - (intOf i).toNat)
  case atStart => exact ⟨0, Nat.zero_le _, rfl, Below.refl _ _⟩
  case round =>
    obtain ⟨k, hk, rfl, H1⟩ := hrel
    by_cases hlt : k < len
    · have hkl : k < l.length := by rw [Hlen.out]; exact hlt
      obtain ⟨b1, o1, ak, ck, ha1, hb1, ⟨c0, c1, c2⟩, hr, -⟩ := (h.out.below H1.out) k hkl
      subst ha1
      have HC := ht.out.tells wr ak ck (fwAt l k) H1.out (Hin.out k hkl) hr
      unfold Fw.val at HC
      have hlt' : (k : Int) < (len : Int) := by omega
      by_cases hkN : k = N
      · have hp : p (fwAt l k) = true := by
          rw [fwAt_lt hkl]
          have := List.findIdx_getElem (p := p) (xs := l) (w := by rw [HN.out, Hlen.out, ← hkN]; exact hlt)
          simpa only [HN.out, ← hkN] using this
        rw [hp] at HC
        clear hp hr hkl
        generalize (fwAt l k).sizes.length = n at c2 HC
        generalize (fwAt l k).weight = t at c0 HC
        generalize (fwAt l k).finish = u at c1 HC
        subst hkN
        go_wp2_with fail
        refine HC.mono ?_
        rintro e w' ⟨rfl, hb'⟩
        have B2 : Hid (Below w.heap.size w w') := H1.out.trans (hb'.mono H1.out.size)
        clear hb' H1 HC c0 c1 c2
        go_wp2
        go_ret
        exact ⟨by first | rfl | (rw [if_pos hlt]; rfl), B2.out⟩
      · have hp : p (fwAt l k) = false := by
          rw [fwAt_lt hkl]
          have := List.not_of_lt_findIdx (p := p) (xs := l) (i := k) (by rw [HN.out]; omega)
          simpa using this
        rw [hp] at HC
        clear hp hr hkl
        generalize (fwAt l k).sizes.length = n at c2 HC
        generalize (fwAt l k).weight = t at c0 HC
        generalize (fwAt l k).finish = u at c1 HC
        go_wp2_with fail
        refine HC.mono ?_
        rintro e w' ⟨rfl, hb'⟩
        have B2 : Hid (Below w.heap.size w w') := H1.out.trans (hb'.mono H1.out.size)
        clear hb' H1 HC c0 c1 c2
        go_wp2
        go_roundw
        case rel => exact ⟨k + 1, by omega, by go_num, B2⟩
        case measure => simp [intOf]; omega
    · obtain rfl : k = len := by omega
      obtain rfl : k = N := by omega
      go_wp2
      go_ret
      exact ⟨by first | rfl | (rw [if_neg (Nat.lt_irrefl _)]; rfl), H1.out⟩

theorem any_idxF {α : Type} (l : List α) (p : α → Bool) : decide (l.findIdx p < l.length) = l.any p := by
  rw [Bool.eq_iff_iff, decide_eq_true_iff, List.findIdx_lt_length, List.any_eq_true]

set_option maxHeartbeats 1600000 in
theorem implContainsF (a : Option Addr) (cap : Nat) (l : List Fw) (g : FuncId) (fs cb : Array Value) (p : Fw → Bool) (w : World) (hT : l.length ≤ 1048576) (hin : ∀ k, k < l.length → (fwAt l k).sizes.length ≤ 1048576) (h : Hid (FwsAt w a l)) (ht : Hid (FwTells w g fs cb p)) :
    Calls Tryz.prog 145 #[.slice a l.length cap, .func (.func g) fs cb] w fun e w' => e = .returned (.bool (l.any p)) ∧ Below w.heap.size w w' := by
  have I := fun (_ : Nat) => implIndexF a cap l g fs cb p w hT hin h ht
  have Ha : Hid (decide (l.findIdx p < l.length) = l.any p) := any_idxF l p
  generalize l.any p = b at Ha ⊢
  generalize l.findIdx p = N at I Ha
  generalize l.length = len at I Ha ⊢
  have I' : Hid _ := I
  clear I hT hin h ht
  go_enter Tryz.func145, Tryz.ntmps145
  go_wp2_with fail
  refine (I'.out 0).mono ?_
  rintro e w' ⟨rfl, hb⟩
  have B2 : Hid (Below w.heap.size w w') := hb
  clear hb I'
  by_cases hk : N < len
  · rw [if_pos hk]
    have hp : (0 : Int) ≤ (N : Int) := by omega
    go_wp2
    go_ret
    exact ⟨ret_bool (by rw [← Ha.out, decide_eq_true hk]), B2.out⟩
  · rw [if_neg hk]
    go_wp2
    go_ret
    exact ⟨ret_bool (by rw [← Ha.out, decide_eq_false hk]), B2.out⟩

set_option maxHeartbeats 1600000 in
theorem implNotFlow (x : Fw) (a : Option Addr) (c : Nat) (w : World) (hT : x.sizes.length ≤ 1048576) (H : IntsAt w a x.sizes) :
    Calls Tryz.prog 146 #[x.val a c] w fun e w' => e = .returned (.bool (!x.ok)) ∧ Below w.heap.size w w' := by
  have C := fun (w : World) hh => implPayerOk x a c w hT hh
  have D := fun (w : World) => implPayerOf x a c w
  generalize x.ok = ok at C ⊢
  have HI : Hid (∀ w', Below w.heap.size w w' → IntsAt w' a x.sizes) := fun w' g => H.below g
  obtain ⟨t, u, fl⟩ := x
  simp only [Fw.val, Fw.pay] at C D HI ⊢
  generalize fl.length = n at C D ⊢
  have C' : Hid _ := C
  have D' : Hid _ := D
  clear C D H hT
  have hB : Hid (Below w.heap.size w (w.alloc (.cells #[.int .i64 t, .int .i64 u, .slice a n c] 86))) := (Below.refl _ _).alloc (Nat.le_refl _) _
  go_enter Tryz.func146, Tryz.ntmps146
  go_wp2_with fail
  refine (D'.out _).mono ?_
  rintro e w1 ⟨rfl, b1⟩
  have B1 : Hid (Below w.heap.size w w1) := hB.out.trans (b1.mono hB.out.size)
  clear b1 hB
  go_wp2_with fail
  refine (C'.out _ (HI.out _ B1.out)).mono ?_
  rintro e w2 ⟨rfl, b2⟩
  have B2 : Hid (Below w.heap.size w w2) := B1.out.trans (b2.mono B1.out.size)
  clear b2
  go_wp2
  go_ret
  exact ⟨rfl, B2.out⟩

theorem flows_any (l : List Fw) : (!l.any fun x => !x.ok) = l.all Fw.ok := by
  induction l with
  | nil => rfl
  | cons x r ih => simp only [List.any_cons, List.all_cons, Bool.not_or, Bool.not_not, ih]

set_option maxHeartbeats 3200000 in
set_option maxRecDepth 100000 in
theorem implFairOk (d : Fs) (v : Value) (w : World) (hB : d.big ≤ 1048576) (h : Hid (FsAt w v d)) :
    Calls Tryz.prog 98 #[v] w fun e w' => e = .returned (.bool d.ok) ∧ Below w.heap.size w w' := by
  obtain ⟨a, c, rfl, k1⟩ := h.out
  clear h
  obtain ⟨hT, -, hin⟩ := Fs.small hB
  have Hok : Hid (d.ok = (inB 0 1125899906842624 d.now && (inB 1 8 (d.flows.length : Int) && !d.flows.any fun x => !x.ok))) := by
    show d.ok = _
    rw [flows_any]
    rfl
  have A1 := fun B w hh => implUpTo1 1125899906842624 d.now w B hh
  have A2 := fun B w hh => implFromOne 8 (d.flows.length : Int) B w hh
  have A3 := fun (w : World) (hh : FwsAt w a d.flows) => implContainsF a c d.flows 146 #[] #[] (fun x => !x.ok) w hT hin hh ⟨enters_of Tryz.func146 (by kernel_rfl) rfl, fun W ak ck l _ hl hr => implNotFlow l ak ck W hl hr⟩
  generalize d.ok = ok at Hok ⊢
  have HI : Hid (∀ w', Below w.heap.size w w' → FwsAt w' a d.flows) := fun w' g => k1.below g
  generalize (d.flows.any fun x => !x.ok) = b3 at A3 Hok
  obtain ⟨t, fl⟩ := d
  simp only [Fs.val] at Hok A1 A2 A3 HI ⊢
  generalize fl.length = n at Hok A2 A3 ⊢
  generalize inB 0 1125899906842624 t = b1 at A1 Hok
  generalize inB 1 8 (n : Int) = b2 at A2 Hok
  have A1' : Hid _ := A1
  have A2' : Hid _ := A2
  have A3' : Hid _ := A3
  clear A1 A2 A3 k1 hT hin hB
  go_enter Tryz.func98, Tryz.ntmps98
  cases b1
  · go_wp2_with fail
    refine (A1'.out _ _ (by simp)).mono ?_
    rintro e w' ⟨rfl, rfl⟩
    go_wp2
    go_ret
    exact ⟨ret_bool (by rw [Hok.out]; rfl), ((Below.refl _ _).alloc (Nat.le_refl _) _).alloc (by simp) _⟩
  cases b2
  · go_wp2_with fail
    refine (A1'.out _ _ (by simp)).mono ?_
    rintro e w' ⟨rfl, rfl⟩
    go_wp2_with fail
    refine (A2'.out _ _ (by simp)).mono ?_
    rintro e w' ⟨rfl, rfl⟩
    go_wp2
    go_ret
    exact ⟨ret_bool (by rw [Hok.out]; rfl), (((Below.refl _ _).alloc (Nat.le_refl _) _).alloc (by simp) _).alloc (by simp; omega) _⟩
  go_wp2_with fail
  refine (A1'.out _ _ (by simp)).mono ?_
  rintro e w' ⟨rfl, rfl⟩
  go_wp2_with fail
  refine (A2'.out _ _ (by simp)).mono ?_
  rintro e w' ⟨rfl, rfl⟩
  have b0 : Hid (Below w.heap.size w (((w.alloc (.cells #[.int .i64 t, .slice a n c] 49)).alloc (.cells #[.int .i64 t] 2)).alloc (.cells #[.int .i64 (n : Int)] 2))) := (((Below.refl _ _).alloc (Nat.le_refl _) _).alloc (by simp) _).alloc (by simp; omega) _
  go_wp2_with fail
  refine (A3'.out _ (HI.out _ b0.out)).mono ?_
  rintro e w' ⟨rfl, q⟩
  have B2 : Hid (Below w.heap.size w w') := b0.out.trans (q.mono b0.out.size)
  clear q b0
  go_wp2
  go_ret
  exact ⟨ret_bool (by rw [Hok.out]; rfl), B2.out⟩
end Go.Proofs.YtaojbmhodpffiaaGreat
