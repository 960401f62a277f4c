/-
  The walk of slices.BinarySearchFunc on dues that rise, and of the program's placeOf. By the verifier, by program.
-/
import Derived.Test.YtgimalimfmoilaaDuHpI
import Derived.Test.YtgimalimfmoilaaWhOrd
import Derived.Test.YtgimalimfmoilaaM14DuMeth
namespace Go.Proofs.Ytgimalimfmoilaa
open Go.RowKit Go.Shelf

theorem search_up {l : List Du} {r : Du} (hs : Rise l) {h : Nat} (hh : h < l.length) (hlt : (duAt l h).lt r) : h < ahead l r := by
  apply Classical.byContradiction
  intro hn
  have hK : ahead l r < l.length := by omega
  have h1 := ahead_not hK
  by_cases e : ahead l r = h
  · rw [e] at h1; exact h1 hlt
  · have h2 := List.pairwise_iff_getElem.1 hs (ahead l r) h hK hh (by omega)
    rw [duAt_lt hK] at h1
    rw [duAt_lt hh] at hlt
    exact h1 (Du.lt_trans h2 hlt)
theorem search_down {l : List Du} {r : Du} {h : Nat} (hlt : ¬ (duAt l h).lt r) : ahead l r ≤ h := by
  apply Classical.byContradiction
  intro hn
  exact hlt (ahead_lt (by omega))
/-- Is it there? -/
def thereD (l : List Du) (r : Du) : Bool := decide (ahead l r < l.length) && decide (duOrdV (duAt l (ahead l r)) r = 0)
theorem thereD_has {l : List Du} {r : Du} (hs : Rise l) : thereD l r = duHas l r := by
  rw [Bool.eq_iff_iff, duHas_at]
  unfold thereD
  rw [Bool.and_eq_true, decide_eq_true_iff, decide_eq_true_iff, duOrd_eq]
  constructor
  · rintro ⟨h1, h2⟩
    exact ⟨_, h1, h2⟩
  · rintro ⟨j, hj, e⟩
    have h1 : ahead l r ≤ j := search_down (by rw [e]; exact Du.lt_irrefl _)
    have h2 : ¬ ahead l r < j := fun q => by
      have h3 := List.pairwise_iff_getElem.1 hs (ahead l r) j (by omega) hj q
      have h4 := ahead_not (l := l) (d := r) (by omega)
      rw [duAt_lt (by omega : ahead l r < l.length)] at h4
      rw [duAt_lt hj] at e
      rw [e] at h3
      exact h4 h3
    have e2 : ahead l r = j := by omega
    rw [e2]
    exact ⟨hj, e⟩

set_option maxHeartbeats 1600000 in
theorem implSearch0 (a : Option Addr) (cap : Nat) (l : List Du) (r : Du) (w : World) (hT : l.length ≤ 1048576) (hs : Hid (Rise l)) (h : Hid (DusAt w a l)) :
    Calls Try.prog 77 #[.slice a l.length cap, r.val, .func (.func 81) #[] #[]] w fun e w' => e = .returned (.tuple #[.int .i64 (ahead l r : Int), .bool (thereD l r)]) ∧ Below w.heap.size w w' := by
  have HT : Hid (thereD l r = (decide (ahead l r < l.length) && decide (duOrdV (duAt l (ahead l r)) r = 0))) := rfl
  obtain ⟨W0, hW0⟩ : ∃ W, W = w.alloc (.cells #[.int .i64 r.time, .int .i64 r.id] 33) := ⟨_, rfl⟩
  have HW : Hid (DusAt W0 a l ∧ Below w.heap.size w W0 ∧ Boxed W0 w.heap.size #[.int .i64 r.time, .int .i64 r.id] 33) := by
    rw [hW0]
    exact ⟨h.out.alloc _, (Below.refl _ _).alloc (Nat.le_refl _) _, Boxed.new _ _ _⟩
  have HW0 : Hid (W0 = _) := hW0
  clear hW0
  obtain ⟨K, hK⟩ : ∃ K, ahead l r = K := ⟨_, rfl⟩
  have HK : Hid (ahead l r = K) := hK
  have hKl : K ≤ l.length := by rw [← hK]; exact ahead_le _ _
  obtain ⟨len, hlen⟩ : ∃ n, l.length = n := ⟨_, rfl⟩
  have Hlen : Hid (l.length = len) := hlen
  rw [hlen] at hT hKl ⊢
  rw [hK]
  obtain ⟨tb, htb⟩ : ∃ b, thereD l r = b := ⟨_, rfl⟩
  rw [htb]
  have HTB : Hid (tb = (decide (K < len) && decide (duOrdV (duAt l K) r = 0))) := by
    show tb = _
    rw [← htb, HT.out, hK, hlen]
  clear hK hlen htb HT
  unfold Du.val
  go_enter Try.func77, Try.ntmps77
  go_wp2
  rw [← HW0.out]
  go_loopw [9, 10] (fun i j wr => ∃ i0 j0 : Nat, i0 ≤ K ∧ K ≤ j0 ∧ j0 ≤ len ∧ i = .int .i64 i0 ∧ j = .int .i64 j0 ∧ Hid (Below W0.heap.size W0 wr)) (fun i j _ => (intOf j).toNat - (intOf i).toNat)
  case atStart => exact ⟨0, len, Nat.zero_le _, hKl, Nat.le_refl _, rfl, rfl, Below.refl _ _⟩
  case round =>
    obtain ⟨i0, j0, hi0, hj0, hjl, rfl, rfl, HB⟩ := hrel
    have f0 : ∀ p : BelW wr.heap.size wr, p.w'.cell? ⟨w.heap.size, 0, none⟩ = some (.int .i64 r.time) := fun p => (HW.out.2.2.below HW.out.2.2.under (HB.out.trans (p.h.mono HB.out.size))).cell 0 rfl
    have f1 : ∀ p : BelW wr.heap.size wr, p.w'.cell? ⟨w.heap.size, 1, none⟩ = some (.int .i64 r.id) := fun p => (HW.out.2.2.below HW.out.2.2.under (HB.out.trans (p.h.mono HB.out.size))).cell 1 rfl
    haveI : Nonempty (BelW wr.heap.size wr) := ⟨⟨wr, Below.refl _ _⟩⟩
    by_cases hij : i0 < j0
    · obtain ⟨m, hm⟩ : ∃ m, (i0 + j0) / 2 = m := ⟨_, rfl⟩
      have hm1 : i0 ≤ m ∧ m < j0 := by omega
      have hml : m < len := by omega
      obtain ⟨b1, o1, ha1, hb1, -⟩ := HW.out.1 m (by rw [Hlen.out]; exact hml)
      subst ha1
      have g0 := fun p : BelW wr.heap.size wr => ((HW.out.1.below (HB.out.trans (p.h.mono HB.out.size))).cells (k := m) (by rw [Hlen.out]; exact hml)).1
      have g1 := fun p : BelW wr.heap.size wr => ((HW.out.1.below (HB.out.trans (p.h.mono HB.out.size))).cells (k := m) (by rw [Hlen.out]; exact hml)).2
      have O := fun w => implOrder (duAt l m) r w
      have up : Hid (duOrdV (duAt l m) r < 0 → m + 1 ≤ K) := by
        show _ → _
        intro hz
        have := search_up (r := r) hs.out (h := m) (by rw [Hlen.out]; exact hml) ((duOrd_lt _ _).1 hz)
        rw [HK.out] at this
        omega
      have down : Hid (¬ duOrdV (duAt l m) r < 0 → K ≤ m) := by
        show _ → _
        intro hz
        have := search_down (l := l) (r := r) (h := m) (fun q => hz ((duOrd_lt _ _).2 q))
        rwa [HK.out] at this
      generalize duOrdV (duAt l m) r = z at O up down
      unfold Du.val at O
      generalize duAt l m = y at g0 g1 O
      have hml' : (m : Int) < (len : Int) := by omega
      have hm' : ((i0 : Int) + (j0 : Int)) / 2 = (m : Int) := by omega
      clear hm
      by_cases hz : z < 0
      · have hd : decide (z < 0) = true := by simp [hz]
        have hK1 := up.out hz
        clear up down hz
        go_wp2

        refine region_below wr.heap.size (by kernel_rfl) (by kernel_rfl) ?_
        repeat (go_big_quiet_step ((go_at_call 81; refine quiet_below (Nat.le_refl _) (O _))))
        refine wpQuiet_nil ?_
        intro wq hx
        have hq := BelW.out hx
        have HB2 : Hid (Below W0.heap.size W0 wq) := HB.out.trans (hq.mono HB.out.size)
        clear hx hq f0 f1 g0 g1 O
        go_wp2
        go_roundw
        case rel => exact ⟨m + 1, j0, by omega, hj0, hjl, by go_num, rfl, HB2⟩
        case measure => simp [intOf]; omega
      · have hd : decide (z < 0) = false := by simp [hz]
        have hK1 := down.out hz
        clear up down hz
        go_wp2
        refine region_below wr.heap.size (by kernel_rfl) (by kernel_rfl) ?_
        repeat (go_big_quiet_step ((go_at_call 81; refine quiet_below (Nat.le_refl _) (O _))))
        refine wpQuiet_nil ?_
        intro wq hx
        have hq := BelW.out hx
        have HB2 : Hid (Below W0.heap.size W0 wq) := HB.out.trans (hq.mono HB.out.size)
        clear hx hq f0 f1 g0 g1 O
        go_wp2
        go_roundw
        case rel => exact ⟨i0, m, hi0, hK1, by omega, rfl, rfl, HB2⟩
        case measure => simp [intOf]; omega
    · obtain rfl : i0 = K := by omega
      obtain rfl : j0 = i0 := by omega
      by_cases hlt : j0 < len
      · obtain ⟨b1, o1, ha1, hb1, -⟩ := HW.out.1 j0 (by rw [Hlen.out]; exact hlt)
        subst ha1
        have g0 := fun p : BelW wr.heap.size wr => ((HW.out.1.below (HB.out.trans (p.h.mono HB.out.size))).cells (k := j0) (by rw [Hlen.out]; exact hlt)).1
        have g1 := fun p : BelW wr.heap.size wr => ((HW.out.1.below (HB.out.trans (p.h.mono HB.out.size))).cells (k := j0) (by rw [Hlen.out]; exact hlt)).2
        have O := fun w => implOrder (duAt l j0) r w
        have htb : Hid (tb = (duOrdV (duAt l j0) r == 0)) := by
          show tb = _
          rw [HTB.out, decide_eq_true hlt, Bool.true_and]
          rw [Bool.eq_iff_iff, decide_eq_true_iff, beq_iff_eq]
        generalize duOrdV (duAt l j0) r = z at O htb
        unfold Du.val at O
        generalize duAt l j0 = y at g0 g1 O
        have hlt' : (j0 : Int) < (len : Int) := by omega
        have hd : decide ((j0 : Int) < (len : Int)) = true := by simp [hlt]
        clear HTB
        go_wp2
        refine region_below wr.heap.size (by kernel_rfl) (by kernel_rfl) ?_
        repeat (go_big_quiet_step ((go_at_call 81; refine quiet_below (Nat.le_refl _) (O _))))
        refine wpQuiet_nil ?_
        intro wq hx
        have hq := BelW.out hx
        have HB2 : Hid (Below w.heap.size w wq) := HW.out.2.1.trans ((HB.out.trans (hq.mono HB.out.size)).mono HW.out.2.1.size)
        clear hx hq f0 f1 g0 g1 O
        go_wp2
        go_ret2
        exact ⟨by rw [htb.out]; rfl, HB2.out⟩
      · have hd : decide ((j0 : Int) < (len : Int)) = false := by simp; omega
        have htb : Hid (tb = false) := by
          show tb = _
          rw [HTB.out, decide_eq_false hlt, Bool.false_and]
        clear HTB
        go_wp2
        refine region_below wr.heap.size (by kernel_rfl) (by kernel_rfl) ?_
        repeat (go_big_quiet_step (fail))
        refine wpQuiet_nil ?_
        intro wq hx
        have hq := BelW.out hx
        have HB2 : Hid (Below w.heap.size w wq) := HW.out.2.1.trans ((HB.out.trans (hq.mono HB.out.size)).mono HW.out.2.1.size)
        clear hx hq f0 f1
        go_wp2
        go_ret2
        exact ⟨by rw [htb.out]; rfl, HB2.out⟩

def searchT : FuncId → Option (List Tmp) := fun g => List.lookup g [(77, [2, 24, 40]), (81, []), (89, []), (90, []), (102, [])]
theorem okSearch : ([77, 81, 89, 90, 102].all fun g => (searchT g).all (okFn Try.prog searchT g)) = true := by kernel_rfl
theorem searchT_in {g : FuncId} {G : List Tmp} (h : searchT g = some G) : g ∈ [77, 81, 89, 90, 102] := by
  unfold searchT at h
  simp only [List.lookup] at h
  repeat' (split at h)
  all_goals first | (cases h; done) | (simp_all; done)
theorem searchSim : SimOk Try.prog searchT (.func (.func 81) #[] #[]) (.func (.methodOf 33 "loop.example/g00316/impl.order") #[] #[]) 81 where
  fns g G h := by
    have := List.all_eq_true.1 okSearch g (searchT_in h)
    rw [h] at this
    simpa using this
  one := by kernel_rfl
  e1 := methE1
  e2 := methE2
  n1 b h := by cases h
  n2 b h := by cases h
  early := noStepS
theorem searchT_is : searchT 77 = some [2, 24, 40] := by kernel_rfl
theorem searchArgs (v1 v2 s t : Value) : ArgR v1 v2 [2, 24, 40] #[s, t, v1] #[s, t, v2] := by
  refine ⟨rfl, fun i hi => ?_, fun i hi => ?_⟩
  · match i, hi with
    | 0, _ => rfl
    | 1, _ => rfl
    | 2, hi => exact absurd (by simp) hi
    | i + 3, _ => simp
  · rcases List.mem_cons.1 hi with rfl | hi
    · right; exact ⟨rfl, rfl⟩
    · left
      rcases List.mem_cons.1 hi with rfl | hi
      · simp
      · rcases List.mem_cons.1 hi with rfl | hi
        · simp
        · cases hi
theorem implSearch (a : Option Addr) (cap : Nat) (l : List Du) (r : Du) (w : World) (hT : l.length ≤ 1048576) (hs : Rise l) (h : DusAt w a l) :
    Calls Try.prog 77 #[.slice a l.length cap, r.val, .func (.methodOf 33 "loop.example/g00316/impl.order") #[] #[]] w fun e w' => e = .returned (.tuple #[.int .i64 (ahead l r : Int), .bool (thereD l r)]) ∧ Below w.heap.size w w' :=
  calls_sim searchSim searchT_is (searchArgs _ _ _ _) (fun _ _ hh => ⟨_, hh.1⟩) (implSearch0 a cap l r w hT hs h)
set_option maxHeartbeats 1600000 in
theorem implPlaceOf (a : Option Addr) (cap : Nat) (l : List Du) (r : Du) (w : World) (hT : l.length ≤ 1048576) (hs : Rise l) (h : DusAt w a l) :
    Calls Try.prog 59 #[.slice a l.length cap, r.val] w fun e w' => e = .returned (.tuple #[.int .i64 (ahead l r : Int), .bool (duHas l r)]) ∧ Below w.heap.size w w' := by
  have b0 : Below w.heap.size w (w.alloc (.cells #[.int .i64 r.time, .int .i64 r.id] 33)) := (Below.refl _ _).alloc (Nat.le_refl _) _
  have C := fun (_ : Nat) => implSearch a cap l r _ hT hs (h.below b0)
  rw [thereD_has hs] at C
  have C' : Hid _ := C
  have B0 : Hid _ := b0
  clear C b0 h hs hT
  generalize duHas l r = tb at C' ⊢
  generalize ahead l r = K at C' ⊢
  generalize l.length = n at C' ⊢
  obtain ⟨t, i⟩ := r
  simp only [Du.val] at C' B0 ⊢
  go_enter Try.func59, Try.ntmps59
  go_wp2_with fail
  refine (C'.out 0).mono ?_
  rintro e w2 ⟨rfl, q⟩
  have Z : Hid (Below w.heap.size w w2) := B0.out.trans (q.mono B0.out.size)
  clear q
  go_wp2
  go_ret2
  exact ⟨rfl, Z.out⟩
end Go.Proofs.Ytgimalimfmoilaa
