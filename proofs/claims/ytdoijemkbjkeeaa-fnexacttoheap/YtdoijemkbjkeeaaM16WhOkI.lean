import Derived.Test.YtdoijemkbjkeeaaM13DzAll
import Derived.Test.YtdoijemkbjkeeaaM3WhFn
import Derived.Test.YtdoijemkbjkeeaaM6RegList
import Derived.Test.YtdoijemkbjkeeaaOpStep
import Derived.Test.YtdoijemkbjkeeaaM2DuFn
import Derived.Test.YtdoijemkbjkeeaaM15DuOkI
import Derived.Test.YtdoijemkbjkeeaaM14DuCmp
import Derived.Test.YtdoijemkbjkeeaaQuiet
import Derived.BigQuiet
import Derived.WalkKit
import Derived.WalkSpells
import Derived.WalkLawsBesides
import Derived.RegionTactic
import Derived.Deep.RegionLaw
import Derived.Deep.CutRange
/-
  The walks of the program's count and of its copy of a Wheel. By the verifier, by program.
-/
namespace Go.Proofs.Ytdoijemkbjkeeaa
open Go.RowKit

set_option maxHeartbeats 1600000 in
theorem implCntWh (r : Wh) (a : Option Addr) (c : Nat) (w : World) (hB : r.big ≤ 1048576) (h : Hid (DzAt w a r.slots)) :
    Calls Try.prog 34 #[r.val a c] w fun e w' => e = .returned (.int .i64 (dzSum r.slots r.slots.length)) ∧ Below w.heap.size w w' := by
  obtain ⟨hT, hS, -⟩ := Wh.small hB
  obtain ⟨f, ls⟩ := r
  simp only [Wh.val] at h hT hS ⊢
  have b0 : Below w.heap.size w (w.alloc (.cells #[.int .i64 f, .slice a ls.length c] 30)) := (Below.refl _ _).alloc (Nat.le_refl _) _
  have C := fun (_ : Nat) => implInAllDu ls a c _ hT hS (h.out.below b0)
  generalize dzSum ls ls.length = s at C ⊢
  generalize ls.length = n at C b0 ⊢
  have C' : Hid _ := C
  have B0 : Hid _ := b0
  clear C b0 h hB hT hS
  go_enter Try.func34, Try.ntmps34
  go_wp2_with fail
  refine (C'.out 0).mono ?_
  rintro e w' ⟨rfl, rfl⟩
  go_wp2
  go_ret
  exact ⟨rfl, B0.out⟩

set_option maxHeartbeats 6400000 in
set_option maxRecDepth 100000 in
theorem implCpyWh (r : Wh) (a : Option Addr) (c : Nat) (w : World) (hB : r.big ≤ 1048576) (h : Hid (DzAt w a r.slots)) :
    Calls Try.prog 32 #[r.val a c] w fun e w' => (∃ v vs, e = .returned (.agg #[.int .i64 r.step, v]) ∧ DzG (w.heap.size + 2) v vs r.slots w' ∧ Tight vs) ∧ Below w.heap.size w w' := by
  obtain ⟨hT, -, hin⟩ := Wh.small hB
  obtain ⟨f, ls⟩ := r
  simp only [Wh.val] at h hT hin ⊢
  clear hB
  have C := fun (w : World) (hh : DzAt w a ls) => implOwnDu ls a c w hT hin hh
  obtain ⟨n, hn⟩ : ∃ n, ls.length = n := ⟨_, rfl⟩
  rw [hn] at C ⊢
  have C' : Hid _ := C
  have Hn : Hid (ls.length = n) := hn
  clear C hT hin hn
  obtain ⟨W, hW⟩ : ∃ W, W = (w.alloc (.cells #[.int .i64 f, .slice a n c] 30)).alloc (.cells #[.int .i64 0, .slice none 0 0] 30) := ⟨_, rfl⟩
  have X : Hid (W.heap.size = w.heap.size + 2 ∧ Boxed W w.heap.size #[.int .i64 f, .slice a n c] 30 ∧ Boxed W (w.heap.size + 1) #[.int .i64 0, .slice none 0 0] 30 ∧ Below w.heap.size w W) := by
    rw [hW]
    refine ⟨by simp, (Boxed.new w _ _).more _, ?_, ((Below.refl _ _).alloc (Nat.le_refl _) _).alloc (by simp) _⟩
    have := Boxed.new (w.alloc (.cells #[.int .i64 f, .slice a n c] 30)) #[.int .i64 0, .slice none 0 0] 30
    simpa using this
  have HK : Hid (DzAt w a ls) := h
  have HWe : Hid (W = _) := hW
  clear hW h
  go_enter Try.func32, Try.ntmps32
  go_upto_region 1 with fail
  rw [← HWe.out]
  clear HWe
  refine region_lists (G := Nat) (by kernel_rfl) (by kernel_rfl) (by kernel_rfl) (fun i => if i = 4 then 5 else if i = 5 then 6 else 99) (fun (L : Nat → Bool) (_ : Nat) (x : World) => L 6 = false → Below W.heap.size W x) (fun i _ x _ x' => i ≠ 4 → i ≠ 6 → x' = x) (fun k y x u => ([fun _ _ u => u = .pointer (some ⟨w.heap.size, 0, none⟩), fun _ _ u => u = .int .i64 f, fun _ _ u => u = .pointer (some ⟨w.heap.size, 1, none⟩), fun _ _ u => u = .slice a n c, fun _ x u => ∃ g vs, u = .slice (some ⟨g, 0, none⟩) n n ∧ DzG (w.heap.size + 2) u vs ls x ∧ Tight vs ∧ Below W.heap.size W x, fun _ x u => ∃ g vs, u = .agg #[.int .i64 f, .slice (some ⟨g, 0, none⟩) n n] ∧ DzG (w.heap.size + 2) (.slice (some ⟨g, 0, none⟩) n n) vs ls x ∧ Tight vs ∧ Below W.heap.size W x, fun _ x _ => ∃ g vs, Boxed x (w.heap.size + 1) #[.int .i64 f, .slice (some ⟨g, 0, none⟩) n n] 30 ∧ DzG (w.heap.size + 2) (.slice (some ⟨g, 0, none⟩) n n) vs ls x ∧ Tight vs ∧ Below w.heap.size w x] : List (Nat → World → Value → Prop)).getD k (fun _ _ _ => True) y x u) ?hR 0 ?h0 ?step ?last
  case hR =>
    intro i' j' y y' x x' u hi1 hj1 hne hu h1 h2 hp hr
    have hj' : j' < 7 := hj1
    have hi' : i' < 7 := hi1
    have hcases : j' = 0 ∨ j' = 1 ∨ j' = 2 ∨ j' = 3 ∨ j' = 4 ∨ j' = 5 ∨ j' = 6 := by omega
    rcases hcases with rfl | rfl | rfl | rfl | rfl | rfl | rfl
    · exact hp
    · exact hp
    · exact hp
    · exact hp
    · have e : x' = x := hr hne (by rintro rfl; exact absurd h2 (by decide +kernel))
      subst e
      exact hp
    · have e : x' = x := hr (by rintro rfl; exact absurd h1 (by decide +kernel)) (fun e => hu e.symm)
      subst e
      exact hp
    · have e : x' = x := hr (by rintro rfl; exact absurd h1 (by decide +kernel)) hne
      subst e
      exact hp
  case h0 => exact fun _ => (Below.refl _ _).drew
  case step =>
    intro q o hq ho L a' y x hLi hwt hre hkp hI hp
    have s1 : a'.tmps[1]?.getD undef = .pointer (some ⟨w.heap.size, 0, none⟩) := by have h2 : a'.tmps.getD 1 undef = .pointer (some ⟨w.heap.size, 0, none⟩) := hkp.slot 1 (by kernel_rfl); simpa using h2
    have s2 : a'.tmps.getD 2 undef = .pointer (some ⟨w.heap.size + 1, 0, none⟩) := hkp.slot 2 (by kernel_rfl)
    have hI' : ∀ k : Nat, k ≠ 6 → (if (6 : Nat) = k then true else L 6) = false → Below W.heap.size W x := by
      intro k n1 z
      have e1 : (if (6 : Nat) = k then true else L 6) = L 6 := if_neg (fun e => n1 e.symm)
      rw [e1] at z
      exact hI z
    have hbx : L 6 = false → x.cell? ⟨w.heap.size, 0, none⟩ = some (.int .i64 f) ∧ x.cell? ⟨w.heap.size, 1, none⟩ = some (.slice a n c) := fun z => by
      have b := X.out.2.1.below X.out.2.1.under (hI z)
      exact ⟨b.cell 0 rfl, b.cell 1 rfl⟩
    have hq' : q < 7 := hq
    have hcases : q = 0 ∨ q = 1 ∨ q = 2 ∨ q = 3 ∨ q = 4 ∨ q = 5 ∨ q = 6 := by omega
    rcases hcases with rfl | rfl | rfl | rfl | rfl | rfl | rfl
    · cases ho
      refine ⟨wanted_none rfl, Oper.wp_mono (K := fun z x' => z = a'.put (some 3) (.pointer (some ⟨w.heap.size, 0, none⟩)) ∧ x' = x) ?_ ?_⟩
      · rintro z x' ⟨rfl, rfl⟩
        exact ⟨_, y, rfl, fun _ _ => rfl, hI' 0 (by decide), fun u hu => hu (fun h => by cases h)⟩
      · unfold Oper.wp
        simp [go_sem, s1]
    · cases ho
      have e0 : a'.tmps.getD 3 undef = .pointer (some ⟨w.heap.size, 0, none⟩) := hp 0 (of_decide_eq_true (by kernel_rfl)) (.inr (by decide))
      have e0' : a'.tmps[3]?.getD undef = .pointer (some ⟨w.heap.size, 0, none⟩) := by simpa using e0
      have z6 : L 6 = false := hre 6 (by kernel_rfl)
      obtain ⟨c0, c1⟩ := hbx z6
      refine ⟨wanted_none rfl, Oper.wp_mono (K := fun z x' => z = a'.put (some 4) (.int .i64 f) ∧ x' = x) ?_ ?_⟩
      · rintro z x' ⟨rfl, rfl⟩
        exact ⟨_, y, rfl, fun _ _ => rfl, hI' 1 (by decide), fun u hu => hu (fun h => by cases h)⟩
      · unfold Oper.wp
        simp [go_sem, e0', c0]
    · cases ho
      refine ⟨wanted_none rfl, Oper.wp_mono (K := fun z x' => z = a'.put (some 5) (.pointer (some ⟨w.heap.size, 1, none⟩)) ∧ x' = x) ?_ ?_⟩
      · rintro z x' ⟨rfl, rfl⟩
        exact ⟨_, y, rfl, fun _ _ => rfl, hI' 2 (by decide), fun u hu => hu (fun h => by cases h)⟩
      · unfold Oper.wp
        simp [go_sem, s1]
    · cases ho
      have e0 : a'.tmps.getD 5 undef = .pointer (some ⟨w.heap.size, 1, none⟩) := hp 2 (of_decide_eq_true (by kernel_rfl)) (.inr (by decide))
      have e0' : a'.tmps[5]?.getD undef = .pointer (some ⟨w.heap.size, 1, none⟩) := by simpa using e0
      have z6 : L 6 = false := hre 6 (by kernel_rfl)
      obtain ⟨c0, c1⟩ := hbx z6
      refine ⟨wanted_none rfl, Oper.wp_mono (K := fun z x' => z = a'.put (some 6) (.slice a n c) ∧ x' = x) ?_ ?_⟩
      · rintro z x' ⟨rfl, rfl⟩
        exact ⟨_, y, rfl, fun _ _ => rfl, hI' 3 (by decide), fun u hu => hu (fun h => by cases h)⟩
      · unfold Oper.wp
        simp [go_sem, e0', c1]
    · cases ho
      have e3 : a'.tmps.getD 6 undef = .slice a n c := hp 3 (of_decide_eq_true (by kernel_rfl)) (.inr (by decide))
      have e3' : a'.tmps[6]?.getD undef = .slice a n c := by simpa using e3
      have z6 : L 6 = false := hre 6 (by kernel_rfl)
      have hb := hI z6
      have hbw : Below w.heap.size w x := X.out.2.2.2.trans (hb.mono X.out.2.2.2.size)
      refine ⟨wanted_none rfl, op_callR (f := 57) (args := #[.slice a n c]) (by simp [execOp, resolve, Deferred.ofValue, invoke, Act.eval, e3']) (C'.out x (HK.out.below hbw)) ?_⟩
      rintro e x1 ⟨⟨vs, rfl, hG, hTi⟩, q⟩
      have hs := hb.size
      have hsW := X.out.1
      have hb1 : Below W.heap.size W x1 := hb.trans (q.mono hs)
      have hG' : DzG (w.heap.size + 2) (.slice (some ⟨x.heap.size, 0, none⟩) n n) vs ls x1 :=
        ⟨⟨hG.outer.1, hG.outer.2.imp id fun ⟨g, cap, cur, h1, h2, h3⟩ => ⟨g, cap, cur, h1, Nat.le_trans (by omega) h2, h3⟩⟩, hG.len, fun i hi => (hG.row i hi).mono (by omega), hG.apart⟩
      exact ⟨_, rfl, _, y, rfl, fun h => absurd rfl h, (fun _ => hb1), fun u hu => ⟨x.heap.size, vs, hu (fun h => by cases h), by rw [hu (fun h => by cases h)]; exact hG', hTi, hb1⟩⟩
    · cases ho
      have e1 : a'.tmps.getD 4 undef = .int .i64 f := hp 1 (of_decide_eq_true (by kernel_rfl)) (.inr (by decide))
      obtain ⟨g, vs, e4, hG, hTi, hb⟩ : ∃ g vs, a'.tmps.getD 7 undef = .slice (some ⟨g, 0, none⟩) n n ∧ DzG (w.heap.size + 2) (a'.tmps.getD 7 undef) vs ls x ∧ Tight vs ∧ Below W.heap.size W x := hp 4 (of_decide_eq_true (by kernel_rfl)) (.inl rfl)
      have e1' : a'.tmps[4]?.getD undef = .int .i64 f := by simpa using e1
      have e4' : a'.tmps[7]?.getD undef = .slice (some ⟨g, 0, none⟩) n n := by simpa using e4
      rw [e4] at hG
      refine ⟨wanted_none rfl, Oper.wp_mono (K := fun z x' => z = a'.put (some 8) (.agg #[.int .i64 f, .slice (some ⟨g, 0, none⟩) n n]) ∧ x' = x) ?_ ?_⟩
      · rintro z x' ⟨rfl, rfl⟩
        exact ⟨_, y, rfl, fun _ _ => rfl, hI' 5 (by decide), fun u hu => ⟨g, vs, hu (fun h => by cases h), hG, hTi, hb⟩⟩
      · unfold Oper.wp
        simp [go_sem, e1', e4']
    · cases ho
      obtain ⟨g, vs, e5, hG, hTi, hb⟩ : ∃ g vs, a'.tmps.getD 8 undef = .agg #[.int .i64 f, .slice (some ⟨g, 0, none⟩) n n] ∧ DzG (w.heap.size + 2) (.slice (some ⟨g, 0, none⟩) n n) vs ls x ∧ Tight vs ∧ Below W.heap.size W x := hp 5 (of_decide_eq_true (by kernel_rfl)) (.inl rfl)
      have b2 : Boxed x (w.heap.size + 1) #[.int .i64 0, .slice none 0 0] 30 := X.out.2.2.1.below X.out.2.2.1.under hb
      have bw : Below w.heap.size w x := X.out.2.2.2.trans (hb.mono X.out.2.2.2.size)
      exact ⟨wanted_none rfl, wp_store_row 30 (.tmp 2) (.tmp 8) rfl (w.heap.size + 1) #[.int .i64 f, .slice (some ⟨g, 0, none⟩) n n] s2 e5 _ _ b2 (by kernel_rfl) rfl (by simp [Value.oneCell']) ⟨undef, y, rfl, fun _ h => absurd rfl h, (fun z => by simp at z), fun _ _ => ⟨g, vs, setRow_heap _ _ _ _ _ _ b2, hG.other fun k hk _ => setRow_other _ _ _ _ (by omega), hTi, below_setRow bw (by omega) _⟩⟩⟩
  case last =>
    intro L a' y x hall hkp hI hp
    obtain ⟨g, vs, b, hG, hTi, hb⟩ : ∃ g vs, Boxed x (w.heap.size + 1) #[.int .i64 f, .slice (some ⟨g, 0, none⟩) n n] 30 ∧ DzG (w.heap.size + 2) (.slice (some ⟨g, 0, none⟩) n n) vs ls x ∧ Tight vs ∧ Below w.heap.size w x := hp 6 (by decide) (by decide)
    have s2 : a'.tmps.getD 2 undef = .pointer (some ⟨w.heap.size + 1, 0, none⟩) := hkp.slot 2 (by kernel_rfl)
    have kd := hkp.defers
    clear hp hI
    go_wp2
    exact bodyPost_ret (results_cell_row Try.results32 _ _ (w.heap.size + 1) _ _ _ _ s2 b Try.underlying30 rfl (by kernel_rfl)) kd (by first | exact ⟨⟨_, rfl, vs, hG, hTi⟩, hb⟩ | exact ⟨⟨_, vs, rfl, hG, hTi⟩, hb⟩)
end Go.Proofs.Ytdoijemkbjkeeaa

/-
  The walks of the program's dues that only read: which are right, which is ahead in a heap, which lists are heaps, which rise, which is there. By the verifier.
-/
namespace Go.Proofs.Ytdoijemkbjkeeaa
open Go.RowKit Go.Shelf

set_option maxHeartbeats 1600000 in
set_option maxRecDepth 100000 in
theorem implIsHeap (a : Option Addr) (cap : Nat) (l : List Du) (w : World) (hT : l.length ≤ 1048576) (h : Hid (DusAt w a l)) :
    Calls Try.prog 63 #[.slice a l.length cap] w fun e w' => e = .returned (.bool (heapK l l.length)) ∧ Below w.heap.size w w' := by
  have L := fun (i j : Nat) (w : World) (hi : i < l.length) (hj : j < l.length) (hh : DusAt w a l) => implLess a cap l i j w hi hj hh
  have K0 : Hid (heapK l 1 = true) := by show heapK l 1 = true; unfold heapK; simp
  have Z : Hid (l.length = 0 → heapK l 0 = true) := fun _ => rfl
  have Hit : Hid (∀ n, 0 < n → n < l.length → decide ((duAt l n).lt (duAt l ((n - 1) / 2))) = true → heapK l l.length = false) := fun n n0 hn q => heapK_hit hn (by simp only [Bool.and_eq_true, decide_eq_true_eq]; exact ⟨n0, of_decide_eq_true q⟩)
  have Suc : Hid (∀ n, 0 < n → heapK l n = true → decide ((duAt l n).lt (duAt l ((n - 1) / 2))) = false → heapK l (n + 1) = true) := fun n n0 h1 h2 => by rw [heapK_succ, h1, h2]; simp
  obtain ⟨len, hlen⟩ : ∃ n, l.length = n := ⟨_, rfl⟩
  rw [hlen] at hT L Z Hit ⊢
  clear hlen
  have L' : Hid _ := L
  clear L
  go_enter Try.func63, Try.ntmps63
  go_wp2
  go_loopw [3] (fun i wr => ∃ k : Nat, 0 < k ∧ (k ≤ len ∨ k = 1) ∧ i = .int .i64 k ∧ Hid (heapK l k = true ∧ Below w.heap.size w wr)) (fun i _ => len - (intOf i).toNat)
  case atStart => exact ⟨1, by omega, .inr rfl, rfl, K0.out, Below.refl _ _⟩
  case round =>
    obtain ⟨k, hk0, hk, rfl, HK⟩ := hrel
    by_cases hlt : k < len
    · have hp : (k - 1) / 2 < len := by omega
      have C := L'.out k ((k - 1) / 2) wr hlt hp (h.out.below HK.out.2)
      have hw1 : ((k : Int) - 1).tdiv 2 = (((k - 1) / 2 : Nat) : Int) := by
        rw [show ((k : Int) - 1) = ((k - 1 : Nat) : Int) by omega]
        rfl
      have hlt' : (k : Int) < (len : Int) := by omega
      have S1 := Suc.out k hk0 HK.out.1
      have S2 := Hit.out k hk0 hlt
      have hk1 : (1 : Int) ≤ (k : Int) := by omega
      generalize decide ((duAt l k).lt (duAt l ((k - 1) / 2))) = z at C S1 S2
      generalize (k - 1) / 2 = m at C hw1 hp
      have S1' : Hid _ := S1
      have S2' : Hid _ := S2
      clear S1 S2
      go_wp2_with fail
      refine C.mono ?_
      rintro e w1 ⟨rfl, b1⟩
      have B : Hid (Below w.heap.size w w1) := HK.out.2.trans (b1.mono HK.out.2.size)
      clear b1 C
      cases z
      · go_wp2
        go_roundw
        case rel => exact ⟨k + 1, by omega, .inl (by omega), by go_num, S1'.out (by first | exact trivial | exact rfl), B.out⟩
        case measure => simp [intOf]; omega
      · go_wp2
        go_ret
        exact ⟨ret_bool (by rw [S2'.out (by first | exact trivial | exact rfl)]), B.out⟩
    · have e : heapK l len = true := by
        rcases hk with hk | rfl
        · obtain rfl : k = len := by omega
          exact HK.out.1
        · by_cases h0 : len = 0
          · rw [h0]; exact Z.out h0
          · obtain rfl : len = 1 := by omega
            exact HK.out.1
      have E : Hid _ := e
      clear e
      go_wp2
      go_ret
      exact ⟨ret_bool E.out.symm, HK.out.2⟩

/-- Does each of the first n come behind the one ahead of it? -/
def riseK (l : List Du) (n : Nat) : Bool := (List.range n).all fun j => !(decide (0 < j) && !decide ((duAt l (j - 1)).lt (duAt l j)))
theorem riseK_succ (l : List Du) (n : Nat) : riseK l (n + 1) = (riseK l n && !(decide (0 < n) && !decide ((duAt l (n - 1)).lt (duAt l n)))) := by
  unfold riseK
  rw [List.range_succ, List.all_append]
  simp
theorem riseK_hit {l : List Du} {n m : Nat} (h : n < m) (n0 : 0 < n) (g : decide ((duAt l (n - 1)).lt (duAt l n)) = false) : riseK l m = false := by
  unfold riseK
  rw [List.all_eq_false]
  refine ⟨n, List.mem_range.2 h, ?_⟩
  rw [g, decide_eq_true n0]
  exact Bool.false_ne_true
theorem riseK_is (l : List Du) : riseK l l.length = true ↔ ∀ k, 0 < k → k < l.length → (duAt l (k - 1)).lt (duAt l k) := by
  unfold riseK
  rw [List.all_eq_true]
  constructor
  · intro h j j0 hj
    have := h j (List.mem_range.2 hj)
    rw [decide_eq_true j0, Bool.true_and, Bool.not_not] at this
    exact of_decide_eq_true this
  · intro h j hj
    have hj := List.mem_range.1 hj
    by_cases j0 : 0 < j
    · rw [decide_eq_true (h j j0 hj)]; simp
    · simp [j0]
set_option maxHeartbeats 1600000 in
set_option maxRecDepth 100000 in
theorem implRises (a : Option Addr) (cap : Nat) (l : List Du) (w : World) (hT : l.length ≤ 1048576) (h : Hid (DusAt w a l)) :
    Calls Try.prog 54 #[.slice a l.length cap] w fun e w' => e = .returned (.bool (riseK l l.length)) ∧ Below w.heap.size w w' := by
  have K0 : Hid (riseK l 1 = true) := by show riseK l 1 = true; unfold riseK; simp
  have Z : Hid (l.length = 0 → riseK l 0 = true) := fun _ => rfl
  have Hit : Hid (∀ n, 0 < n → n < l.length → decide (0 ≤ duOrdV (duAt l (n - 1)) (duAt l n)) = true → riseK l l.length = false) := fun n n0 hn q => riseK_hit hn n0 (decide_eq_false fun e => by have := of_decide_eq_true q; have := (duOrd_lt _ _).2 e; omega)
  have Suc : Hid (∀ n, 0 < n → riseK l n = true → decide (0 ≤ duOrdV (duAt l (n - 1)) (duAt l n)) = false → riseK l (n + 1) = true) := fun n n0 h1 h2 => by
    rw [riseK_succ, h1, decide_eq_true ((duOrd_lt (duAt l (n - 1)) (duAt l n)).1 (by have := of_decide_eq_false h2; omega))]
    simp
  obtain ⟨len, hlen⟩ : ∃ n, l.length = n := ⟨_, rfl⟩
  rw [hlen] at hT Z Hit ⊢
  have Hlen : Hid (l.length = len) := hlen
  clear hlen
  go_enter Try.func54, Try.ntmps54
  go_wp2
  go_loopw [3] (fun i wr => ∃ k : Nat, 0 < k ∧ (k ≤ len ∨ k = 1) ∧ i = .int .i64 k ∧ Hid (riseK l k = true ∧ Below w.heap.size w wr)) (fun i _ => len - (intOf i).toNat)
  case atStart => exact ⟨1, by omega, .inr rfl, rfl, K0.out, Below.refl _ _⟩
  case round =>
    obtain ⟨k, hk0, hk, rfl, HK⟩ := hrel
    by_cases hlt : k < len
    · obtain ⟨m, rfl⟩ : ∃ m, k = m + 1 := ⟨k - 1, by omega⟩
      have R : Hid (DusAt wr a l) := h.out.below HK.out.2
      obtain ⟨b1, o1, ha1, hb1, -⟩ := R.out m (by rw [Hlen.out]; omega)
      subst ha1
      have g0 := fun p : BelW wr.heap.size wr => ((R.out.below p.h).cells (k := m) (by rw [Hlen.out]; omega)).1
      have g1 := fun p : BelW wr.heap.size wr => ((R.out.below p.h).cells (k := m) (by rw [Hlen.out]; omega)).2
      have f0 := fun p : BelW wr.heap.size wr => ((R.out.below p.h).cells (k := m + 1) (by rw [Hlen.out]; omega)).1
      have f1 := fun p : BelW wr.heap.size wr => ((R.out.below p.h).cells (k := m + 1) (by rw [Hlen.out]; omega)).2
      have O := fun w => implOrder (duAt l m) (duAt l (m + 1)) w
      have S1 := Suc.out (m + 1) hk0 HK.out.1
      have S2 := Hit.out (m + 1) hk0 hlt
      rw [Nat.add_sub_cancel] at S1 S2
      have hm0 := orderMeth (duAt l m).val
      generalize duOrdV (duAt l m) (duAt l (m + 1)) = z at O S1 S2
      unfold Du.val at O hm0
      generalize duAt l m = x at g0 g1 O hm0
      generalize duAt l (m + 1) = y at f0 f1 O
      have hlt' : (m : Int) + 1 < (len : Int) := by omega
      have hlt2 : (m : Int) < (len : Int) := by omega
      have St : Hid (∀ w2, Below wr.heap.size wr w2 → Below w.heap.size w w2) := fun w2 q => HK.out.2.trans (q.mono HK.out.2.size)
      have S1' : Hid _ := S1
      have S2' : Hid _ := S2
      clear S1 S2 R HK
      haveI : Nonempty (BelW wr.heap.size wr) := ⟨⟨wr, Below.refl _ _⟩⟩
      by_cases hz : 0 ≤ z
      · have hd : decide (0 ≤ z) = true := decide_eq_true hz
        have e : Hid _ := S2'.out hd
        go_upto_region 4 with fail
        refine region_below wr.heap.size (by kernel_rfl) (by kernel_rfl) ?_
        repeat (go_big_quiet_step ((go_at_call 80; refine quiet_below (Nat.le_refl _) (O _))))
        refine wpQuiet_nil ?_
        intro wq hx
        have hq : Hid (Below w.heap.size w wq) := St.out _ (BelW.out hx)
        clear hx f0 f1 g0 g1 O
        go_wp2
        go_ret
        exact ⟨ret_bool (by rw [e.out]), hq.out⟩
      · have hd : decide (0 ≤ z) = false := decide_eq_false hz
        have e : Hid (riseK l (m + 1 + 1) = true) := S1'.out hd
        go_upto_region 4 with fail
        refine region_below wr.heap.size (by kernel_rfl) (by kernel_rfl) ?_
        repeat (go_big_quiet_step ((go_at_call 80; refine quiet_below (Nat.le_refl _) (O _))))
        refine wpQuiet_nil ?_
        intro wq hx
        have hq : Hid (Below w.heap.size w wq) := St.out _ (BelW.out hx)
        clear hx f0 f1 g0 g1 O
        go_wp2
        go_roundw
        case rel => exact ⟨m + 1 + 1, by omega, .inl (by omega), by go_num, e.out, hq.out⟩
        case measure => simp [intOf]; omega
    · have e : riseK l len = true := by
        rcases hk with hk | rfl
        · obtain rfl : k = len := by omega
          exact HK.out.1
        · by_cases h0 : len = 0
          · rw [h0]; exact Z.out h0
          · obtain rfl : len = 1 := by omega
            exact HK.out.1
      have E : Hid _ := e
      clear e
      go_wp2
      go_ret
      exact ⟨ret_bool E.out.symm, HK.out.2⟩
end Go.Proofs.Ytdoijemkbjkeeaa

/-
  The walks of the program's slotOf and WheelOk. By the verifier.
-/
namespace Go.Proofs.Ytdoijemkbjkeeaa
open Go.RowKit Go.Shelf

set_option maxHeartbeats 1600000 in
theorem implSlot (step : Int) (d : Du) (w : World) (hs : 1 ≤ step ∧ step ≤ 1000) (hd : d.ok = true) :
    Calls Try.prog 35 #[.int .i64 step, d.val] w fun e w' => e = .returned (.int .i64 (slot step d)) ∧ Below w.heap.size w w' := by
  obtain ⟨t, i⟩ := d
  have ht : 0 ≤ t ∧ t ≤ 1099511627776 := by
    unfold Du.ok at hd
    rw [Bool.and_eq_true, inB_true] at hd
    exact hd.1
  simp only [Du.val]
  obtain ⟨q, hq⟩ : ∃ q, q = t / step := ⟨_, rfl⟩
  have hq0 : 0 ≤ q := by rw [hq]; exact Int.ediv_nonneg ht.1 (by omega)
  have hq1 : q ≤ 1099511627776 := by rw [hq]; exact Int.le_trans (Int.ediv_le_self _ ht.1) ht.2
  have e1 : t.tdiv step = q := by rw [hq]; exact Int.tdiv_eq_ediv_of_nonneg ht.1
  have e2 : q.tmod 8 = q % 8 := Int.tmod_eq_emod_of_nonneg hq0
  have e3 : ¬ step = 0 := by omega
  have e4 : (step == 0) = false := by simpa using e3
  have e5 : ¬ step = -1 := by omega
  have hr : Hid (slot step ⟨t, i⟩ = q % 8) := by show (t / step) % 8 = q % 8; rw [hq]
  have hm : 0 ≤ q % 8 ∧ q % 8 < 8 := ⟨Int.emod_nonneg _ (by decide), Int.emod_lt_of_pos _ (by decide)⟩
  rw [hr.out]
  generalize q % 8 = m at e2 hm
  have B : Hid (Below w.heap.size w (w.alloc (.cells #[.int .i64 t, .int .i64 i] 34))) := (Below.refl _ _).alloc (Nat.le_refl _) _
  clear hq hr hd
  go_enter Try.func35, Try.ntmps35
  go_wp2
  go_ret
  exact ⟨rfl, B.out⟩
end Go.Proofs.Ytdoijemkbjkeeaa
