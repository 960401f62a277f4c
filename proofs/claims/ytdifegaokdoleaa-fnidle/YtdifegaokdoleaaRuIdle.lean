/-
  The walk of the model's Idle. By the verifier, by program.
-/
import Derived.Test.YtdifegaokdoleaaM11PutAny
import Derived.Test.YtdifegaokdoleaaRuClass
import Derived.BigQuiet
namespace Go.Proofs.Ytdifegaokdoleaa
open Go.RowKit

theorem insI_again (xs : List Int) (x : Int) : insI (insI xs x) x = insI xs x := by
  by_cases h : xs[insK xs x]? = some x
  · have e : insI xs x = xs := by unfold insI; rw [if_pos h]
    rw [e, e]
  · have e : insI xs x = xs.take (insK xs x) ++ [x] ++ xs.drop (insK xs x) := by unfold insI; rw [if_neg h]
    have hle : insK xs x ≤ xs.length := List.findIdx_le_length
    have hk : insK (xs.take (insK xs x) ++ [x] ++ xs.drop (insK xs x)) x = insK xs x := by
      have hlt : ∀ y ∈ xs.take (insK xs x), (!decide (y < x)) = false := by
        intro y hy
        obtain ⟨j, hj, rfl⟩ := List.mem_iff_getElem.1 hy
        rw [List.length_take] at hj
        have := List.not_of_lt_findIdx (p := fun y => !decide (y < x)) (xs := xs) (i := j) (by unfold insK at hj; omega)
        rw [List.getElem_take]
        simpa using this
      have hl2 : (xs.take (insK xs x)).length = insK xs x := by rw [List.length_take]; omega
      show List.findIdx (fun y => !decide (y < x)) (xs.take (insK xs x) ++ [x] ++ xs.drop (insK xs x)) = insK xs x
      rw [List.append_assoc, List.findIdx_append]
      rw [if_neg]
      · rw [hl2]
        simp [List.findIdx_cons]
      · rw [List.findIdx_lt_length]
        rintro ⟨y, hy, hy2⟩
        rw [hlt y hy] at hy2
        cases hy2
    rw [e]
    conv => lhs; unfold insI
    rw [hk, if_pos]
    rw [List.append_assoc, List.getElem?_append_right (by rw [List.length_take]; omega), List.length_take, Nat.min_eq_left hle, Nat.sub_self]
    rfl

/-- One of them is wider and goes ahead. -/
def idleB (l : List Ru) (i k : Nat) : Bool := !decide (k = i) && ((ruAt l k).ahead (ruAt l i) && (ruAt l k).wide (ruAt l i))
/-- Its Id is put, again and again. -/
def innerK (l : List Ru) (i : Nat) (xs : List Int) : Nat → List Int
  | 0 => xs
  | k + 1 => if idleB l i k = true then insI (innerK l i xs k) (ruAt l i).id else innerK l i xs k
theorem innerK_succ (l : List Ru) (i : Nat) (xs : List Int) (k : Nat) : innerK l i xs (k + 1) = if idleB l i k = true then insI (innerK l i xs k) (ruAt l i).id else innerK l i xs k := rfl
theorem innerK_is (l : List Ru) (i : Nat) (xs : List Int) (k : Nat) : innerK l i xs k = if (List.range k).any (idleB l i) = true then insI xs (ruAt l i).id else xs := by
  induction k with
  | zero => rfl
  | succ k ih =>
    rw [innerK_succ, ih, List.range_succ, List.any_append]
    cases h1 : (List.range k).any (idleB l i) <;> cases h2 : idleB l i k <;> simp [h2, insI_again]
theorem innerK_len (l : List Ru) (i : Nat) (xs : List Int) (k : Nat) : (innerK l i xs k).length ≤ xs.length + 1 := by
  rw [innerK_is]
  split
  · exact insI_len xs _
  · omega
def idleK (l : List Ru) : Nat → List Int
  | 0 => []
  | i + 1 => innerK l i (idleK l i) l.length
theorem idleK_succ (l : List Ru) (i : Nat) : idleK l (i + 1) = innerK l i (idleK l i) l.length := rfl
theorem idleK_len (l : List Ru) (i : Nat) : (idleK l i).length ≤ i := by
  induction i with
  | zero => simp [idleK]
  | succ i ih =>
    rw [idleK_succ]
    have := innerK_len l i (idleK l i) l.length
    omega
def idleV (l : List Ru) : List Int := if rusOk l = true then idleK l l.length else []

set_option maxHeartbeats 12800000 in
set_option maxRecDepth 100000 in
theorem specIdle (a0 : Option Addr) (cap : Nat) (l : List Ru) (w : World) (hL : l.length ≤ 1048576) (h : Hid (RusAt w a0 l)) :
    Calls Try.prog 24 #[.slice a0 l.length cap] w fun e w' => (∃ v, e = .returned v ∧ IRow w.heap.size w' v (idleV l)) ∧ Below w.heap.size w w' := by
  have C := fun w h => specRules a0 cap l w hL h
  have Hv : Hid (idleV l = if rusOk l = true then idleK l l.length else []) := rfl
  have H40 : Hid (rusOk l = true → l.length ≤ 40 ∧ ∀ k, k < l.length → (ruAt l k).ok = true) := fun h => ⟨rus_len h, fun k hk => rus_ok h hk⟩
  generalize idleV l = res at Hv ⊢
  have HS : Hid (∀ i, idleK l (i + 1) = innerK l i (idleK l i) l.length) := fun i => rfl
  obtain ⟨len, hlen⟩ : ∃ n, l.length = n := ⟨_, rfl⟩
  rw [hlen] at C Hv H40 HS ⊢
  have Hlen : Hid (l.length = len) := hlen
  clear hlen hL
  generalize rusOk l = ok at C Hv H40
  have C' : Hid _ := C
  clear C
  have R0 : Hid (IRow w.heap.size (w.alloc (.cells #[] 2)) (.slice (some ⟨w.heap.size, 0, none⟩) 0 0) [] ∧ Below w.heap.size w (w.alloc (.cells #[] 2))) := ⟨irow_built w w.heap.size (Nat.le_refl _), (Below.refl _ w).alloc (Nat.le_refl _) _⟩
  go_enter Try.func24, Try.ntmps24
  go_wp2_with fail
  refine (C'.out _ (h.out.below R0.out.2)).mono ?_
  rintro e w1 ⟨rfl, b1⟩
  have H1 : Hid (IRow w.heap.size w1 (.slice (some ⟨w.heap.size, 0, none⟩) 0 0) [] ∧ Below w.heap.size w w1) := ⟨R0.out.1.below (fun k hk => (R0.out.1.lt k hk).2) b1, R0.out.2.trans (b1.mono R0.out.2.size)⟩
  clear b1 R0
  cases ok
  · have e : Hid (res = []) := by show res = []; rw [Hv.out]; rfl
    go_wp2
    go_ret
    exact ⟨⟨_, rfl, by rw [e.out]; exact H1.out.1⟩, H1.out.2⟩
  have e : Hid (res = idleK l len) := by show res = _; rw [Hv.out]; rfl
  have h40 := H40.out (by first | exact trivial | exact rfl)
  have hl40 := h40.1
  have Hr : Hid (∀ k, k < len → (ruAt l k).ok = true) := h40.2
  clear H40 h40 Hv
  go_wp2_with fail
  go_loopw [3, 4] (fun v i wr => ∃ (k g c n : Nat), k ≤ len ∧ v = .slice (some ⟨g, 0, none⟩) n c ∧ i = .int .i64 k ∧ n ≤ c ∧ n ≤ k ∧ Hid ((idleK l k).length = n) ∧ Hid (IRow w.heap.size wr (.slice (some ⟨g, 0, none⟩) n c) (idleK l k) ∧ Below w.heap.size w wr)) (fun _ i _ => len - (intOf i).toNat)
  case atStart => exact ⟨0, w.heap.size, 0, 0, Nat.zero_le _, rfl, rfl, Nat.le_refl _, Nat.le_refl _, rfl, H1⟩
  case round =>
    clear H1
    obtain ⟨i, g, c, n, hi', rfl, rfl, hnc, hnk, Hn, H2⟩ := hrel
    by_cases hi : i < len
    · have hii : (i : Int) < (len : Int) := by omega
      obtain ⟨xs, hxs⟩ : ∃ xs, idleK l i = xs := ⟨_, rfl⟩
      have Hxs : Hid (idleK l i = xs) := hxs
      rw [hxs] at Hn H2
      clear hxs
      have hxl : xs.length ≤ 39 := by rw [Hn.out]; omega
      have hIn : Hid (∀ k, (innerK l i xs k).length ≤ xs.length + 1) := fun k => innerK_len l i xs k
      go_wp2_with fail
      go_loopw [3, 5] (fun v k wr => ∃ (k' g c n : Nat), k' ≤ len ∧ v = .slice (some ⟨g, 0, none⟩) n c ∧ k = .int .i64 k' ∧ n ≤ c ∧ n ≤ 40 ∧ Hid ((innerK l i xs k').length = n) ∧ Hid (IRow w.heap.size wr (.slice (some ⟨g, 0, none⟩) n c) (innerK l i xs k') ∧ Below w.heap.size w wr)) (fun _ k _ => len - (intOf k).toNat)
      case atStart => exact ⟨0, g, c, n, Nat.zero_le _, rfl, rfl, hnc, by omega, Hn, H2⟩
      case round =>
        clear H2 Hn hnc hnk
        obtain ⟨k, g, c, n, hk, rfl, rfl, hnc, hn41, Hn, H2⟩ := hrel
        by_cases hlt : k < len
        · have R : Hid (RusAt wr a0 l) := h.out.below H2.out.2
          obtain ⟨a1, o1, ha1, hb1, -⟩ := R.out k (by rw [Hlen.out]; exact hlt)
          subst ha1
          have hlt' : (k : Int) < (len : Int) := by omega
          haveI : Nonempty (BelW wr.heap.size wr) := ⟨⟨wr, Below.refl _ _⟩⟩
          have Hid0 : Hid (idleB l i k = (!decide (k = i) && ((ruAt l k).ahead (ruAt l i) && (ruAt l k).wide (ruAt l i)))) := rfl
          have Hs0 : Hid (innerK l i xs (k + 1) = if idleB l i k = true then insI (innerK l i xs k) (ruAt l i).id else innerK l i xs k) := rfl
          have f0 := fun p : BelW wr.heap.size wr => ((R.out.below p.h).cells (k := k) (by rw [Hlen.out]; exact hlt)).1
          have f1 := fun p : BelW wr.heap.size wr => ((R.out.below p.h).cells (k := k) (by rw [Hlen.out]; exact hlt)).2.1
          have f2 := fun p : BelW wr.heap.size wr => ((R.out.below p.h).cells (k := k) (by rw [Hlen.out]; exact hlt)).2.2.1
          have f3 := fun p : BelW wr.heap.size wr => ((R.out.below p.h).cells (k := k) (by rw [Hlen.out]; exact hlt)).2.2.2.1
          have f4 := fun p : BelW wr.heap.size wr => ((R.out.below p.h).cells (k := k) (by rw [Hlen.out]; exact hlt)).2.2.2.2.1
          have f5 := fun p : BelW wr.heap.size wr => ((R.out.below p.h).cells (k := k) (by rw [Hlen.out]; exact hlt)).2.2.2.2.2.1
          have f6 := fun p : BelW wr.heap.size wr => ((R.out.below p.h).cells (k := k) (by rw [Hlen.out]; exact hlt)).2.2.2.2.2.2.1
          have f7 := fun p : BelW wr.heap.size wr => ((R.out.below p.h).cells (k := k) (by rw [Hlen.out]; exact hlt)).2.2.2.2.2.2.2.1
          have f8 := fun p : BelW wr.heap.size wr => ((R.out.below p.h).cells (k := k) (by rw [Hlen.out]; exact hlt)).2.2.2.2.2.2.2.2.1
          have f9 := fun p : BelW wr.heap.size wr => ((R.out.below p.h).cells (k := k) (by rw [Hlen.out]; exact hlt)).2.2.2.2.2.2.2.2.2
          have g0 := fun p : BelW wr.heap.size wr => ((R.out.below p.h).cells (k := i) (by rw [Hlen.out]; exact hi)).1
          have g1 := fun p : BelW wr.heap.size wr => ((R.out.below p.h).cells (k := i) (by rw [Hlen.out]; exact hi)).2.1
          have g2 := fun p : BelW wr.heap.size wr => ((R.out.below p.h).cells (k := i) (by rw [Hlen.out]; exact hi)).2.2.1
          have g3 := fun p : BelW wr.heap.size wr => ((R.out.below p.h).cells (k := i) (by rw [Hlen.out]; exact hi)).2.2.2.1
          have g4 := fun p : BelW wr.heap.size wr => ((R.out.below p.h).cells (k := i) (by rw [Hlen.out]; exact hi)).2.2.2.2.1
          have g5 := fun p : BelW wr.heap.size wr => ((R.out.below p.h).cells (k := i) (by rw [Hlen.out]; exact hi)).2.2.2.2.2.1
          have g6 := fun p : BelW wr.heap.size wr => ((R.out.below p.h).cells (k := i) (by rw [Hlen.out]; exact hi)).2.2.2.2.2.2.1
          have g7 := fun p : BelW wr.heap.size wr => ((R.out.below p.h).cells (k := i) (by rw [Hlen.out]; exact hi)).2.2.2.2.2.2.2.1
          have g8 := fun p : BelW wr.heap.size wr => ((R.out.below p.h).cells (k := i) (by rw [Hlen.out]; exact hi)).2.2.2.2.2.2.2.2.1
          have g9 := fun p : BelW wr.heap.size wr => ((R.out.below p.h).cells (k := i) (by rw [Hlen.out]; exact hi)).2.2.2.2.2.2.2.2.2
          have A := fun w => (specAhead (ruAt l k) (ruAt l i) w).mono fun e w' (q : e = .returned (.bool ((ruAt l k).ahead (ruAt l i))) ∧ w' = _) => (⟨q.1, by rw [q.2]; exact ((Below.refl _ w).alloc (Nat.le_refl _) _).alloc (by simp) _⟩ : e = .returned (.bool ((ruAt l k).ahead (ruAt l i))) ∧ Below w.heap.size w w')
          have V := fun w => (specWide (ruAt l k) (ruAt l i) (Hr.out k hlt) (Hr.out i hi) w).mono fun e w' (q : e = .returned (.bool ((ruAt l k).wide (ruAt l i))) ∧ w' = _) => (⟨q.1, by rw [q.2]; exact ((Below.refl _ w).alloc (Nat.le_refl _) _).alloc (by simp) _⟩ : e = .returned (.bool ((ruAt l k).wide (ruAt l i))) ∧ Below w.heap.size w w')
          by_cases hki : k = i
          · have Hs : Hid (innerK l i xs (k + 1) = innerK l i xs k) := by
              show innerK l i xs (k + 1) = innerK l i xs k
              rw [Hs0.out, Hid0.out, decide_eq_true hki]; rfl
            clear A V Hs0 Hid0
            have hki3 : ((k : Int) != (i : Int)) = false := by subst hki; simp
            go_wp2
            refine region_below wr.heap.size (by kernel_rfl) (by kernel_rfl) ?_
            repeat (go_big_quiet_step (fail))
            refine wpQuiet_nil ?_
            intro wq hx
            have hq := BelW.out hx
            have B : Hid (IRow w.heap.size wq (.slice (some ⟨g, 0, none⟩) n c) (innerK l i xs k) ∧ Below w.heap.size w wq) := ⟨H2.out.1.below (fun k hk => (H2.out.1.lt k hk).2) hq, H2.out.2.trans (hq.mono H2.out.2.size)⟩
            clear hx hq H2 f0 f1 f2 f3 f4 f5 f6 f7 f8 f9 g0 g1 g2 g3 g4 g5 g6 g7 g8 g9
            go_wp2
            go_roundw
            case rel => exact ⟨k + 1, g, c, n, by omega, rfl, by go_num, hnc, hn41, by show (innerK l i xs (k + 1)).length = n; rw [Hs.out]; exact Hn.out, by show IRow w.heap.size wq (.slice (some ⟨g, 0, none⟩) n c) (innerK l i xs (k + 1)) ∧ Below w.heap.size w wq; rw [Hs.out]; exact B.out⟩
            case measure => simp [intOf]; omega
          have hki1 : ¬ (k : Int) = (i : Int) := by omega
          have hki2 : ((k : Int) != (i : Int)) = true := by rw [bne_iff_ne]; exact hki1
          rw [decide_eq_false hki] at Hid0
          cases had : (ruAt l k).ahead (ruAt l i)
          · have Hs : Hid (innerK l i xs (k + 1) = innerK l i xs k) := by
              show innerK l i xs (k + 1) = innerK l i xs k
              rw [Hs0.out, Hid0.out, had]; rfl
            rw [had] at A
            unfold Ru.val at A
            clear V Hs0 Hid0 had
            generalize ruAt l k = r at f0 f1 f2 f3 f4 f5 f6 f7 f8 f9 A
            generalize ruAt l i = r2 at g0 g1 g2 g3 g4 g5 g6 g7 g8 g9 A
            have A' : Hid _ := A
            clear A
            go_wp2
            refine region_below wr.heap.size (by kernel_rfl) (by kernel_rfl) ?_
            repeat (go_big_quiet_step ((go_at_call 57; refine quiet_below (Nat.le_refl _) (A'.out _))))
            refine wpQuiet_nil ?_
            intro wq hx
            have hq := BelW.out hx
            have B : Hid (IRow w.heap.size wq (.slice (some ⟨g, 0, none⟩) n c) (innerK l i xs k) ∧ Below w.heap.size w wq) := ⟨H2.out.1.below (fun k hk => (H2.out.1.lt k hk).2) hq, H2.out.2.trans (hq.mono H2.out.2.size)⟩
            clear hx hq H2 f0 f1 f2 f3 f4 f5 f6 f7 f8 f9 g0 g1 g2 g3 g4 g5 g6 g7 g8 g9
            go_wp2
            go_roundw
            case rel => exact ⟨k + 1, g, c, n, by omega, rfl, by go_num, hnc, hn41, by show (innerK l i xs (k + 1)).length = n; rw [Hs.out]; exact Hn.out, by show IRow w.heap.size wq (.slice (some ⟨g, 0, none⟩) n c) (innerK l i xs (k + 1)) ∧ Below w.heap.size w wq; rw [Hs.out]; exact B.out⟩
            case measure => simp [intOf]; omega
          cases hwd : (ruAt l k).wide (ruAt l i)
          · have Hs : Hid (innerK l i xs (k + 1) = innerK l i xs k) := by
              show innerK l i xs (k + 1) = innerK l i xs k
              rw [Hs0.out, Hid0.out, had, hwd]; rfl
            rw [had] at A
            rw [hwd] at V
            unfold Ru.val at A V
            clear Hs0 Hid0 had hwd
            generalize ruAt l k = r at f0 f1 f2 f3 f4 f5 f6 f7 f8 f9 A V
            generalize ruAt l i = r2 at g0 g1 g2 g3 g4 g5 g6 g7 g8 g9 A V
            have A' : Hid _ := A
            have V' : Hid _ := V
            clear A V
            go_wp2
            refine region_below wr.heap.size (by kernel_rfl) (by kernel_rfl) ?_
            repeat (go_big_quiet_step (first | (go_at_call 57; refine quiet_below (Nat.le_refl _) (A'.out _)) | (go_at_call 58; refine quiet_below (Nat.le_refl _) (V'.out _))))
            refine wpQuiet_nil ?_
            intro wq hx
            have hq := BelW.out hx
            have B : Hid (IRow w.heap.size wq (.slice (some ⟨g, 0, none⟩) n c) (innerK l i xs k) ∧ Below w.heap.size w wq) := ⟨H2.out.1.below (fun k hk => (H2.out.1.lt k hk).2) hq, H2.out.2.trans (hq.mono H2.out.2.size)⟩
            clear hx hq H2 f0 f1 f2 f3 f4 f5 f6 f7 f8 f9 g0 g1 g2 g3 g4 g5 g6 g7 g8 g9
            go_wp2
            go_roundw
            case rel => exact ⟨k + 1, g, c, n, by omega, rfl, by go_num, hnc, hn41, by show (innerK l i xs (k + 1)).length = n; rw [Hs.out]; exact Hn.out, by show IRow w.heap.size wq (.slice (some ⟨g, 0, none⟩) n c) (innerK l i xs (k + 1)) ∧ Below w.heap.size w wq; rw [Hs.out]; exact B.out⟩
            case measure => simp [intOf]; omega
          · have Hs : Hid (innerK l i xs (k + 1) = insI (innerK l i xs k) (ruAt l i).id) := by
              show innerK l i xs (k + 1) = _
              rw [Hs0.out, Hid0.out, had, hwd]; rfl
            rw [had] at A
            rw [hwd] at V
            unfold Ru.val at A V
            have P := fun g c wz h1 h2 h3 => specPutA w.heap.size g c (innerK l i xs k) (ruAt l i).id wz (by rw [Hn.out]; omega) h1 h2 h3
            rw [← Hs.out, Hn.out] at P
            have hin := hIn.out (k + 1)
            clear Hs0 Hid0 had hwd
            generalize ruAt l k = r at f0 f1 f2 f3 f4 f5 f6 f7 f8 f9 A V
            obtain ⟨r2, hr2⟩ : ∃ r2, ruAt l i = r2 := ⟨_, rfl⟩
            have Hr2 : Hid (ruAt l i = r2) := hr2
            rw [hr2] at g0 g1 g2 g3 g4 g5 g6 g7 g8 g9 A V P
            clear hr2
            have A' : Hid _ := A
            have V' : Hid _ := V
            have P' : Hid _ := P
            clear A V P
            go_wp2
            refine region_below wr.heap.size (by kernel_rfl) (by kernel_rfl) ?_
            repeat (go_big_quiet_step (first | (go_at_call 57; refine quiet_below (Nat.le_refl _) (A'.out _)) | (go_at_call 58; refine quiet_below (Nat.le_refl _) (V'.out _))))
            refine wpQuiet_nil ?_
            intro wq hx
            have hq := BelW.out hx
            have B : Hid (IRow w.heap.size wq (.slice (some ⟨g, 0, none⟩) n c) (innerK l i xs k) ∧ Below w.heap.size w wq) := ⟨H2.out.1.below (fun k hk => (H2.out.1.lt k hk).2) hq, H2.out.2.trans (hq.mono H2.out.2.size)⟩
            clear hx hq H2 f0 f1 f2 f3 f4 f5 f6 f7 f8 f9 g0 g1 g2 g3 g4 g5 g6 g7 g8 g9
            have c0 : wq.cell? ⟨a1, o1 + i * 10, none⟩ = some (.int .i64 r2.id) := by
              have := ((h.out.below B.out.2).cells (k := i) (by rw [Hlen.out]; exact hi)).1
              rwa [Hr2.out] at this
            go_wp2_with fail
            refine (P'.out _ _ _ hnc B.out.2.size B.out.1).mono ?_
            rintro e5 w5 ⟨⟨g5, c5, rfl, r5, hc5⟩, b5⟩
            have H5 : Hid (IRow w.heap.size w5 (.slice (some ⟨g5, 0, none⟩) (innerK l i xs (k + 1)).length c5) (innerK l i xs (k + 1)) ∧ Below w.heap.size w w5) := ⟨r5, B.out.2.trans (b5.mono B.out.2.size)⟩
            clear r5 b5 B c0
            go_wp2
            go_roundw
            case rel => exact ⟨k + 1, g5, c5, (innerK l i xs (k + 1)).length, by omega, rfl, by go_num, hc5, by omega, rfl, H5⟩
            case measure => simp [intOf]; omega
        · obtain rfl : k = len := by omega
          go_wp2
          go_roundw
          case rel => exact ⟨i + 1, g, c, n, by omega, rfl, by go_num, hnc, by have := hIn.out k; rw [Hn.out] at this; have := idleK_len l i; rw [Hxs.out] at this; omega, by show (idleK l (i + 1)).length = n; rw [HS.out, Hxs.out]; exact Hn.out, by show IRow w.heap.size wr (.slice (some ⟨g, 0, none⟩) n c) (idleK l (i + 1)) ∧ Below w.heap.size w wr; rw [HS.out, Hxs.out]; exact H2.out⟩
          case measure => simp [intOf]; omega
    · obtain rfl : i = len := by omega
      go_wp2
      go_ret
      exact ⟨⟨_, rfl, by rw [e.out]; exact H2.out.1⟩, H2.out.2⟩
end Go.Proofs.Ytdifegaokdoleaa
