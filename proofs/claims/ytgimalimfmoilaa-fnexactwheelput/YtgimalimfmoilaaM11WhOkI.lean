import Derived.Test.YtgimalimfmoilaaM0DzPlain
import Derived.Test.YtgimalimfmoilaaDzBlk
import Derived.Test.YtgimalimfmoilaaDzGrow
import Derived.Test.YtgimalimfmoilaaDuCpy
import Derived.Test.YtgimalimfmoilaaM1NumIn
import Derived.Test.YtgimalimfmoilaaStepRow
import Derived.Laws.ResultCell
import Derived.Laws.CopyOwn
import Derived.Test.YtgimalimfmoilaaM2WhFn
import Derived.Test.YtgimalimfmoilaaM4RegList
import Derived.Test.YtgimalimfmoilaaOpStep
import Derived.Test.YtgimalimfmoilaaDuHpI
/-
  The walks of the program's count of lists and of its copy of them. By the verifier, by program.
-/
namespace Go.Proofs.Ytgimalimfmoilaa
open Go.RowKit

set_option maxHeartbeats 1600000 in
set_option maxRecDepth 100000 in
theorem implInAllDu (ls : List (List Du)) (a : Option Addr) (c : Nat) (w : World) (hT : ls.length ≤ 1048576) (hS : dzSum ls ls.length ≤ 1048576) (h : Hid (DzAt w a ls)) :
    Calls Try.prog 74 #[.slice a ls.length c] w fun e w' => e = .returned (.int .i64 (dzSum ls ls.length)) ∧ w' = w := by
  obtain ⟨len, hlen⟩ : ∃ n, ls.length = n := ⟨_, rfl⟩
  rw [hlen] at hT hS ⊢
  have Hlen : Hid (ls.length = len) := hlen
  clear hlen
  go_enter Try.func74, Try.ntmps74
  go_wp2
  go_loop [3, 8] (fun s i => ∃ (k : Nat) (q : Int), k ≤ len ∧ i = .int .i64 k ∧ s = .int .i64 q ∧ 0 ≤ q ∧ q ≤ 1048576 ∧ Hid (q = dzSum ls k)) (fun _ i => len - (intOf i).toNat)
  case atStart => exact ⟨0, 0, Nat.zero_le _, rfl, rfl, by omega, by omega, by show (0 : Int) = (dzSum ls 0 : Nat); rw [dzSum_zero]; rfl⟩
  case round =>
    obtain ⟨k, q, hk, rfl, rfl, q0, q1, Hq⟩ := hrel
    by_cases hlt : k < len
    · have hkl : k < ls.length := by rw [Hlen.out]; exact hlt
      obtain ⟨b, off, ak, ck, ha, hb, hc, -, -⟩ := h.out k hkl
      subst ha
      have hs := dzSum_succ hkl
      have hm := dzSum_mono (ls := ls) (i := k + 1) (j := len) (by omega) (by rw [Hlen.out]; exact Nat.le_refl _)
      have q2 : q + ((dzAt ls k).length : Int) ≤ 1048576 := by have := Hq.out; omega
      have Hs : Hid (dzSum ls (k + 1) = dzSum ls k + (dzAt ls k).length) := hs
      generalize (dzAt ls k).length = n at hc q2 Hs
      clear hs hm
      go_wp2
      go_round
      case rel =>
        refine ⟨k + 1, q + n, by omega, by go_num, by go_num, by omega, by omega, ?_⟩
        show q + n = ((dzSum ls (k + 1) : Nat) : Int)
        rw [Hs.out, Hq.out]
        push_cast
        rfl
      case measure => simp [intOf]; omega
    · obtain rfl : k = len := by omega
      go_wp2
      go_ret
      exact ⟨ret_num Hq.out, rfl⟩

theorem DzB.grow {ls : List (List Du)} {len G : Nat} {vs : List Value} {wr : World} (h : DzB ls len G len vs wr) (hl : ls.length = len) : DzG G (.slice (some ⟨G, 0, none⟩) len len) vs ls wr := by
  subst hl
  have ho := h.outer
  rw [Nat.sub_self, List.replicate_zero, List.append_nil] at ho
  exact ⟨ho, h.len, h.row, fun i j k hi hj hne h1 h2 => h.apart i j hi hj hne (h1.trans h2.symm)⟩

/-- Every list of a list of the call's own has room for just what it holds. -/
def Tight (vs : List Value) : Prop := ∀ i, i < vs.length → ∃ x n, dzV vs i = .slice (some ⟨x, 0, none⟩) n n

set_option maxHeartbeats 6400000 in
set_option maxRecDepth 100000 in
theorem implOwnDu (ls : List (List Du)) (a : Option Addr) (c : Nat) (w : World) (hT : ls.length ≤ 1048576) (hin : ∀ k, k < ls.length → (dzAt ls k).length ≤ 1048576) (h : Hid (DzAt w a ls)) :
    Calls Try.prog 76 #[.slice a ls.length c] w fun e w' => (∃ vs, e = .returned (.slice (some ⟨w.heap.size, 0, none⟩) ls.length ls.length) ∧ DzG w.heap.size (.slice (some ⟨w.heap.size, 0, none⟩) ls.length ls.length) vs ls w' ∧ Tight vs) ∧ Below w.heap.size w w' := by
  have Hin : Hid (∀ k, k < ls.length → (dzAt ls k).length ≤ 1048576) := hin
  obtain ⟨i0, hi, hz0, hz1, hz2⟩ := info_parts dzInfo
  obtain ⟨n, hn⟩ : ∃ n, ls.length = n := ⟨_, rfl⟩
  rw [hn] at hT ⊢
  have Hn : Hid (ls.length = n) := hn
  clear hn hin
  have hmk : ∀ wx, (Instr.makeSlice 45 (.int .i64 (n : Int)) (.int .i64 (n : Int))).run Try.prog wx = .ok (.slice (some ⟨wx.heap.size, 0, none⟩) n n) (wx.alloc (.cells (madeCells #[.slice none 0 0] (n * 1)) 25)) := by
    intro wx
    have := run_make (P := Try.prog) wx 45 25 i0 (.slice none 0 0) Try.underlying45 hi hz0 .i64 .i64 n n (by omega) (by omega) (by rw [hz2]; omega) (by omega)
    rw [this, hz1]; simp [Value.cells]
  clear hi hz0 hz1 hz2
  have X : Hid (DzB ls n w.heap.size 0 [] (w.alloc (.cells (madeCells #[.slice none 0 0] (n * 1)) 25)) ∧ Below w.heap.size w (w.alloc (.cells (madeCells #[.slice none 0 0] (n * 1)) 25))) := by
    refine ⟨?_, (Below.refl _ _).alloc (Nat.le_refl _) _⟩
    have := World.ownsRow_lit (size := 1) (e := 25) (base := w.heap.size) w (madeCells #[.slice none 0 0] (n * 1)) n (Nat.le_refl _) (by unfold maxLen; omega) (by rw [size_madeCells])
    rw [dzMade] at this
    exact ⟨by simpa using this, rfl, fun i hi => by omega, fun i hi => by omega, fun i j hi => by omega⟩
  rw [Nat.mul_one] at X
  obtain ⟨G, hG0⟩ : ∃ G, G = w.heap.size := ⟨_, rfl⟩
  have HG : Hid (G = w.heap.size) := hG0
  clear hG0
  go_enter Try.func76, Try.ntmps76
  go_wp2
  rw [← HG.out] at X ⊢
  generalize w.alloc (.cells (madeCells #[.slice none 0 0] n) 25) = W1 at X ⊢
  go_loopw [11] (fun i wr => ∃ k : Nat, k ≤ n ∧ i = .int .i64 k ∧ Hid (∃ vs, DzB ls n G k vs wr ∧ Below G w wr ∧ Tight vs)) (fun i _ => n - (intOf i).toNat)
  case atStart => exact ⟨0, Nat.zero_le _, rfl, [], X.out.1, X.out.2, fun i hi => by simp at hi⟩
  case round =>
    clear X hmk
    obtain ⟨k, hk, rfl, H1⟩ := hrel
    obtain ⟨vs, H1⟩ : ∃ vs, Hid (DzB ls n G k vs wr ∧ Below G w wr ∧ Tight vs) := H1.out
    have Bw : Hid (Below w.heap.size w wr) := by have := H1.out.2.1; rw [HG.out] at this; exact this
    by_cases hlt : k < n
    · have R : Hid (DzAt wr a ls) := h.out.below Bw.out
      obtain ⟨b1, o1, i1, c1, ha1, hb1, hc1, hr1, -⟩ := R.out k (by rw [Hn.out]; exact hlt)
      subst ha1
      have hn := Hin.out k (by rw [Hn.out]; exact hlt)
      have T := fun w h => implCopyDu i1 c1 (dzAt ls k) w hn h
      have hG : G < wr.heap.size := (World.ownsRow.lt H1.out.1.outer _ rfl).2
      have hlt' : (k : Int) < (n : Int) := by omega
      have St : Hid (∀ w2 x, DuRow wr.heap.size w2 (.slice (some ⟨x, 0, none⟩) (dzAt ls k).length (dzAt ls k).length) (dzAt ls k) → Below wr.heap.size wr w2 →
          (∃ vs', DzB ls n G (k + 1) vs' (w2.setCell ⟨G, k, none⟩ (.slice (some ⟨x, 0, none⟩) (dzAt ls k).length (dzAt ls k).length)) ∧ Below G w (w2.setCell ⟨G, k, none⟩ (.slice (some ⟨x, 0, none⟩) (dzAt ls k).length (dzAt ls k).length)) ∧ Tight vs') ∧ (∃ y, w2.cell? ⟨G, k, none⟩ = some y) ∧ w2.frozen? ⟨G, k, none⟩ = false) := fun w2 x q1 q2 => by
        have hb := H1.out.1.below q2
        refine ⟨⟨_, H1.out.1.add hlt q2 q1, (H1.out.2.1.trans (q2.mono (by omega))).setCell (Nat.le_refl _) _, fun i hi => ?_⟩, ?_, hb.outer.frozenAt k⟩
        · by_cases e : i < vs.length
          · rw [dzV_old e]; exact H1.out.2.2 i e
          · obtain rfl : i = vs.length := by simp at hi; omega
            rw [dzV_new]
            exact ⟨_, _, rfl⟩
        · rw [hb.outer.cellAt k (by omega)]
          exact ⟨_, List.getElem?_eq_getElem (by have := hb.len; simp; omega)⟩
      generalize dzAt ls k = l at hc1 hr1 T St
      generalize hln : l.length = m at hc1 T St
      clear hln
      have T' : Hid _ := T
      have Hr1 : Hid (DusAt wr i1 l) := hr1
      clear T hr1 hn R
      go_wp2_with fail
      refine (T'.out _ Hr1.out).mono ?_
      rintro e w2 ⟨x, rfl, q1, q2⟩
      obtain ⟨H3, ⟨y, hy⟩, hz⟩ := St.out w2 x q1 q2
      have H3 : Hid _ := H3
      have hG2 : G < w2.heap.size := Nat.lt_of_lt_of_le hG q2.size
      clear q1 q2 St hc1
      go_wp2
      go_roundw
      case rel => exact ⟨k + 1, by omega, by go_num, H3⟩
      case measure => simp [intOf]; omega
    · obtain rfl : k = n := by omega
      have Y : Hid (DzG G (.slice (some ⟨G, 0, none⟩) k k) vs ls wr ∧ Tight vs) := ⟨H1.out.1.grow Hn.out, H1.out.2.2⟩
      clear H1
      go_wp2
      go_ret
      refine ⟨⟨vs, ?_, ?_⟩, Bw.out⟩
      · rw [← HG.out]; rfl
      · have := Y.out; rw [HG.out] at this; exact this
end Go.Proofs.Ytgimalimfmoilaa

/-
  The walks of the program's count and of its copy of a Wheel. By the verifier, by program.
-/
namespace Go.Proofs.Ytgimalimfmoilaa
open Go.RowKit

set_option maxHeartbeats 1600000 in
theorem implCntWh (r : Wh) (a : Option Addr) (c : Nat) (w : World) (hB : r.big ≤ 1048576) (h : Hid (DzAt w a r.slots)) :
    Calls Try.prog 50 #[r.val a c] w fun e w' => e = .returned (.int .i64 (dzSum r.slots r.slots.length)) ∧ Below w.heap.size w w' := by
  obtain ⟨hT, hS, -⟩ := Wh.small hB
  obtain ⟨f, ls⟩ := r
  simp only [Wh.val] at h hT hS ⊢
  have b0 : Below w.heap.size w (w.alloc (.cells #[.int .i64 f, .slice a ls.length c] 47)) := (Below.refl _ _).alloc (Nat.le_refl _) _
  have C := fun (_ : Nat) => implInAllDu ls a c _ hT hS (h.out.below b0)
  generalize dzSum ls ls.length = s at C ⊢
  generalize ls.length = n at C b0 ⊢
  have C' : Hid _ := C
  have B0 : Hid _ := b0
  clear C b0 h hB hT hS
  go_enter Try.func50, Try.ntmps50
  go_wp2_with fail
  refine (C'.out 0).mono ?_
  rintro e w' ⟨rfl, rfl⟩
  go_wp2
  go_ret
  exact ⟨rfl, B0.out⟩

set_option maxHeartbeats 6400000 in
set_option maxRecDepth 100000 in
theorem implCpyWh (r : Wh) (a : Option Addr) (c : Nat) (w : World) (hB : r.big ≤ 1048576) (h : Hid (DzAt w a r.slots)) :
    Calls Try.prog 58 #[r.val a c] w fun e w' => (∃ v vs, e = .returned (.agg #[.int .i64 r.step, v]) ∧ DzG (w.heap.size + 2) v vs r.slots w' ∧ Tight vs) ∧ Below w.heap.size w w' := by
  obtain ⟨hT, -, hin⟩ := Wh.small hB
  obtain ⟨f, ls⟩ := r
  simp only [Wh.val] at h hT hin ⊢
  clear hB
  have C := fun (w : World) (hh : DzAt w a ls) => implOwnDu ls a c w hT hin hh
  obtain ⟨n, hn⟩ : ∃ n, ls.length = n := ⟨_, rfl⟩
  rw [hn] at C ⊢
  have C' : Hid _ := C
  have Hn : Hid (ls.length = n) := hn
  clear C hT hin hn
  obtain ⟨W, hW⟩ : ∃ W, W = (w.alloc (.cells #[.int .i64 f, .slice a n c] 47)).alloc (.cells #[.int .i64 0, .slice none 0 0] 47) := ⟨_, rfl⟩
  have X : Hid (W.heap.size = w.heap.size + 2 ∧ Boxed W w.heap.size #[.int .i64 f, .slice a n c] 47 ∧ Boxed W (w.heap.size + 1) #[.int .i64 0, .slice none 0 0] 47 ∧ Below w.heap.size w W) := by
    rw [hW]
    refine ⟨by simp, (Boxed.new w _ _).more _, ?_, ((Below.refl _ _).alloc (Nat.le_refl _) _).alloc (by simp) _⟩
    have := Boxed.new (w.alloc (.cells #[.int .i64 f, .slice a n c] 47)) #[.int .i64 0, .slice none 0 0] 47
    simpa using this
  have HK : Hid (DzAt w a ls) := h
  have HWe : Hid (W = _) := hW
  clear hW h
  go_enter Try.func58, Try.ntmps58
  go_upto_region 1 with fail
  rw [← HWe.out]
  clear HWe
  refine region_lists (G := Nat) (by kernel_rfl) (by kernel_rfl) (by kernel_rfl) (fun i => if i = 4 then 5 else if i = 5 then 6 else 99) (fun (L : Nat → Bool) (_ : Nat) (x : World) => L 6 = false → Below W.heap.size W x) (fun i _ x _ x' => i ≠ 4 → i ≠ 6 → x' = x) (fun k y x u => ([fun _ _ u => u = .pointer (some ⟨w.heap.size, 0, none⟩), fun _ _ u => u = .int .i64 f, fun _ _ u => u = .pointer (some ⟨w.heap.size, 1, none⟩), fun _ _ u => u = .slice a n c, fun _ x u => ∃ g vs, u = .slice (some ⟨g, 0, none⟩) n n ∧ DzG (w.heap.size + 2) u vs ls x ∧ Tight vs ∧ Below W.heap.size W x, fun _ x u => ∃ g vs, u = .agg #[.int .i64 f, .slice (some ⟨g, 0, none⟩) n n] ∧ DzG (w.heap.size + 2) (.slice (some ⟨g, 0, none⟩) n n) vs ls x ∧ Tight vs ∧ Below W.heap.size W x, fun _ x _ => ∃ g vs, Boxed x (w.heap.size + 1) #[.int .i64 f, .slice (some ⟨g, 0, none⟩) n n] 47 ∧ DzG (w.heap.size + 2) (.slice (some ⟨g, 0, none⟩) n n) vs ls x ∧ Tight vs ∧ Below w.heap.size w x] : List (Nat → World → Value → Prop)).getD k (fun _ _ _ => True) y x u) ?hR 0 ?h0 ?step ?last
  case hR =>
    intro i' j' y y' x x' u hi1 hj1 hne hu h1 h2 hp hr
    have hj' : j' < 7 := hj1
    have hi' : i' < 7 := hi1
    have hcases : j' = 0 ∨ j' = 1 ∨ j' = 2 ∨ j' = 3 ∨ j' = 4 ∨ j' = 5 ∨ j' = 6 := by omega
    rcases hcases with rfl | rfl | rfl | rfl | rfl | rfl | rfl
    · exact hp
    · exact hp
    · exact hp
    · exact hp
    · have e : x' = x := hr hne (by rintro rfl; exact absurd h2 (by decide +kernel))
      subst e
      exact hp
    · have e : x' = x := hr (by rintro rfl; exact absurd h1 (by decide +kernel)) (fun e => hu e.symm)
      subst e
      exact hp
    · have e : x' = x := hr (by rintro rfl; exact absurd h1 (by decide +kernel)) hne
      subst e
      exact hp
  case h0 => exact fun _ => (Below.refl _ _).drew
  case step =>
    intro q o hq ho L a' y x hLi hwt hre hkp hI hp
    have s1 : a'.tmps[1]?.getD undef = .pointer (some ⟨w.heap.size, 0, none⟩) := by have h2 : a'.tmps.getD 1 undef = .pointer (some ⟨w.heap.size, 0, none⟩) := hkp.slot 1 (by kernel_rfl); simpa using h2
    have s2 : a'.tmps.getD 2 undef = .pointer (some ⟨w.heap.size + 1, 0, none⟩) := hkp.slot 2 (by kernel_rfl)
    have hI' : ∀ k : Nat, k ≠ 6 → (if (6 : Nat) = k then true else L 6) = false → Below W.heap.size W x := by
      intro k n1 z
      have e1 : (if (6 : Nat) = k then true else L 6) = L 6 := if_neg (fun e => n1 e.symm)
      rw [e1] at z
      exact hI z
    have hbx : L 6 = false → x.cell? ⟨w.heap.size, 0, none⟩ = some (.int .i64 f) ∧ x.cell? ⟨w.heap.size, 1, none⟩ = some (.slice a n c) := fun z => by
      have b := X.out.2.1.below X.out.2.1.under (hI z)
      exact ⟨b.cell 0 rfl, b.cell 1 rfl⟩
    have hq' : q < 7 := hq
    have hcases : q = 0 ∨ q = 1 ∨ q = 2 ∨ q = 3 ∨ q = 4 ∨ q = 5 ∨ q = 6 := by omega
    rcases hcases with rfl | rfl | rfl | rfl | rfl | rfl | rfl
    · cases ho
      refine ⟨wanted_none rfl, Oper.wp_mono (K := fun z x' => z = a'.put (some 3) (.pointer (some ⟨w.heap.size, 0, none⟩)) ∧ x' = x) ?_ ?_⟩
      · rintro z x' ⟨rfl, rfl⟩
        exact ⟨_, y, rfl, fun _ _ => rfl, hI' 0 (by decide), fun u hu => hu (fun h => by cases h)⟩
      · unfold Oper.wp
        simp [go_sem, s1]
    · cases ho
      have e0 : a'.tmps.getD 3 undef = .pointer (some ⟨w.heap.size, 0, none⟩) := hp 0 (of_decide_eq_true (by kernel_rfl)) (.inr (by decide))
      have e0' : a'.tmps[3]?.getD undef = .pointer (some ⟨w.heap.size, 0, none⟩) := by simpa using e0
      have z6 : L 6 = false := hre 6 (by kernel_rfl)
      obtain ⟨c0, c1⟩ := hbx z6
      refine ⟨wanted_none rfl, Oper.wp_mono (K := fun z x' => z = a'.put (some 4) (.int .i64 f) ∧ x' = x) ?_ ?_⟩
      · rintro z x' ⟨rfl, rfl⟩
        exact ⟨_, y, rfl, fun _ _ => rfl, hI' 1 (by decide), fun u hu => hu (fun h => by cases h)⟩
      · unfold Oper.wp
        simp [go_sem, e0', c0]
    · cases ho
      refine ⟨wanted_none rfl, Oper.wp_mono (K := fun z x' => z = a'.put (some 5) (.pointer (some ⟨w.heap.size, 1, none⟩)) ∧ x' = x) ?_ ?_⟩
      · rintro z x' ⟨rfl, rfl⟩
        exact ⟨_, y, rfl, fun _ _ => rfl, hI' 2 (by decide), fun u hu => hu (fun h => by cases h)⟩
      · unfold Oper.wp
        simp [go_sem, s1]
    · cases ho
      have e0 : a'.tmps.getD 5 undef = .pointer (some ⟨w.heap.size, 1, none⟩) := hp 2 (of_decide_eq_true (by kernel_rfl)) (.inr (by decide))
      have e0' : a'.tmps[5]?.getD undef = .pointer (some ⟨w.heap.size, 1, none⟩) := by simpa using e0
      have z6 : L 6 = false := hre 6 (by kernel_rfl)
      obtain ⟨c0, c1⟩ := hbx z6
      refine ⟨wanted_none rfl, Oper.wp_mono (K := fun z x' => z = a'.put (some 6) (.slice a n c) ∧ x' = x) ?_ ?_⟩
      · rintro z x' ⟨rfl, rfl⟩
        exact ⟨_, y, rfl, fun _ _ => rfl, hI' 3 (by decide), fun u hu => hu (fun h => by cases h)⟩
      · unfold Oper.wp
        simp [go_sem, e0', c1]
    · cases ho
      have e3 : a'.tmps.getD 6 undef = .slice a n c := hp 3 (of_decide_eq_true (by kernel_rfl)) (.inr (by decide))
      have e3' : a'.tmps[6]?.getD undef = .slice a n c := by simpa using e3
      have z6 : L 6 = false := hre 6 (by kernel_rfl)
      have hb := hI z6
      have hbw : Below w.heap.size w x := X.out.2.2.2.trans (hb.mono X.out.2.2.2.size)
      refine ⟨wanted_none rfl, op_callR (f := 76) (args := #[.slice a n c]) (by simp [execOp, resolve, Deferred.ofValue, invoke, Act.eval, e3']) (C'.out x (HK.out.below hbw)) ?_⟩
      rintro e x1 ⟨⟨vs, rfl, hG, hTi⟩, q⟩
      have hs := hb.size
      have hsW := X.out.1
      have hb1 : Below W.heap.size W x1 := hb.trans (q.mono hs)
      have hG' : DzG (w.heap.size + 2) (.slice (some ⟨x.heap.size, 0, none⟩) n n) vs ls x1 :=
        ⟨⟨hG.outer.1, hG.outer.2.imp id fun ⟨g, cap, cur, h1, h2, h3⟩ => ⟨g, cap, cur, h1, Nat.le_trans (by omega) h2, h3⟩⟩, hG.len, fun i hi => (hG.row i hi).mono (by omega), hG.apart⟩
      exact ⟨_, rfl, _, y, rfl, fun h => absurd rfl h, (fun _ => hb1), fun u hu => ⟨x.heap.size, vs, hu (fun h => by cases h), by rw [hu (fun h => by cases h)]; exact hG', hTi, hb1⟩⟩
    · cases ho
      have e1 : a'.tmps.getD 4 undef = .int .i64 f := hp 1 (of_decide_eq_true (by kernel_rfl)) (.inr (by decide))
      obtain ⟨g, vs, e4, hG, hTi, hb⟩ : ∃ g vs, a'.tmps.getD 7 undef = .slice (some ⟨g, 0, none⟩) n n ∧ DzG (w.heap.size + 2) (a'.tmps.getD 7 undef) vs ls x ∧ Tight vs ∧ Below W.heap.size W x := hp 4 (of_decide_eq_true (by kernel_rfl)) (.inl rfl)
      have e1' : a'.tmps[4]?.getD undef = .int .i64 f := by simpa using e1
      have e4' : a'.tmps[7]?.getD undef = .slice (some ⟨g, 0, none⟩) n n := by simpa using e4
      rw [e4] at hG
      refine ⟨wanted_none rfl, Oper.wp_mono (K := fun z x' => z = a'.put (some 8) (.agg #[.int .i64 f, .slice (some ⟨g, 0, none⟩) n n]) ∧ x' = x) ?_ ?_⟩
      · rintro z x' ⟨rfl, rfl⟩
        exact ⟨_, y, rfl, fun _ _ => rfl, hI' 5 (by decide), fun u hu => ⟨g, vs, hu (fun h => by cases h), hG, hTi, hb⟩⟩
      · unfold Oper.wp
        simp [go_sem, e1', e4']
    · cases ho
      obtain ⟨g, vs, e5, hG, hTi, hb⟩ : ∃ g vs, a'.tmps.getD 8 undef = .agg #[.int .i64 f, .slice (some ⟨g, 0, none⟩) n n] ∧ DzG (w.heap.size + 2) (.slice (some ⟨g, 0, none⟩) n n) vs ls x ∧ Tight vs ∧ Below W.heap.size W x := hp 5 (of_decide_eq_true (by kernel_rfl)) (.inl rfl)
      have b2 : Boxed x (w.heap.size + 1) #[.int .i64 0, .slice none 0 0] 47 := X.out.2.2.1.below X.out.2.2.1.under hb
      have bw : Below w.heap.size w x := X.out.2.2.2.trans (hb.mono X.out.2.2.2.size)
      exact ⟨wanted_none rfl, wp_store_row 47 (.tmp 2) (.tmp 8) rfl (w.heap.size + 1) #[.int .i64 f, .slice (some ⟨g, 0, none⟩) n n] s2 e5 _ _ b2 (by kernel_rfl) rfl (by simp [Value.oneCell']) ⟨undef, y, rfl, fun _ h => absurd rfl h, (fun z => by simp at z), fun _ _ => ⟨g, vs, setRow_heap _ _ _ _ _ _ b2, hG.other fun k hk _ => setRow_other _ _ _ _ (by omega), hTi, below_setRow bw (by omega) _⟩⟩⟩
  case last =>
    intro L a' y x hall hkp hI hp
    obtain ⟨g, vs, b, hG, hTi, hb⟩ : ∃ g vs, Boxed x (w.heap.size + 1) #[.int .i64 f, .slice (some ⟨g, 0, none⟩) n n] 47 ∧ DzG (w.heap.size + 2) (.slice (some ⟨g, 0, none⟩) n n) vs ls x ∧ Tight vs ∧ Below w.heap.size w x := hp 6 (by decide) (by decide)
    have s2 : a'.tmps.getD 2 undef = .pointer (some ⟨w.heap.size + 1, 0, none⟩) := hkp.slot 2 (by kernel_rfl)
    have kd := hkp.defers
    clear hp hI
    go_wp2
    exact bodyPost_ret (results_cell_row Try.results58 _ _ (w.heap.size + 1) _ _ _ _ s2 b Try.underlying47 rfl (by kernel_rfl)) kd (by first | exact ⟨⟨_, rfl, vs, hG, hTi⟩, hb⟩ | exact ⟨⟨_, vs, rfl, hG, hTi⟩, hb⟩)
end Go.Proofs.Ytgimalimfmoilaa

/-
  The walks of the program's slotOf and WheelOk. By the verifier.
-/
namespace Go.Proofs.Ytgimalimfmoilaa
open Go.RowKit Go.Shelf

set_option maxHeartbeats 1600000 in
theorem implSlot (step : Int) (d : Du) (w : World) (hs : 1 ≤ step ∧ step ≤ 1000) (hd : d.ok = true) :
    Calls Try.prog 53 #[.int .i64 step, d.val] w fun e w' => e = .returned (.int .i64 (slot step d)) ∧ Below w.heap.size w w' := by
  obtain ⟨t, i⟩ := d
  have ht : 0 ≤ t ∧ t ≤ 1099511627776 := by
    unfold Du.ok at hd
    rw [Bool.and_eq_true, inB_true] at hd
    exact hd.1
  simp only [Du.val]
  obtain ⟨q, hq⟩ : ∃ q, q = t / step := ⟨_, rfl⟩
  have hq0 : 0 ≤ q := by rw [hq]; exact Int.ediv_nonneg ht.1 (by omega)
  have hq1 : q ≤ 1099511627776 := by rw [hq]; exact Int.le_trans (Int.ediv_le_self _ ht.1) ht.2
  have e1 : t.tdiv step = q := by rw [hq]; exact Int.tdiv_eq_ediv_of_nonneg ht.1
  have e2 : q.tmod 8 = q % 8 := Int.tmod_eq_emod_of_nonneg hq0
  have e3 : ¬ step = 0 := by omega
  have e4 : (step == 0) = false := by simpa using e3
  have e5 : ¬ step = -1 := by omega
  have hr : Hid (slot step ⟨t, i⟩ = q % 8) := by show (t / step) % 8 = q % 8; rw [hq]
  have hm : 0 ≤ q % 8 ∧ q % 8 < 8 := ⟨Int.emod_nonneg _ (by decide), Int.emod_lt_of_pos _ (by decide)⟩
  rw [hr.out]
  generalize q % 8 = m at e2 hm
  have B : Hid (Below w.heap.size w (w.alloc (.cells #[.int .i64 t, .int .i64 i] 33))) := (Below.refl _ _).alloc (Nat.le_refl _) _
  clear hq hr hd
  go_enter Try.func53, Try.ntmps53
  go_wp2
  go_ret
  exact ⟨rfl, B.out⟩
end Go.Proofs.Ytgimalimfmoilaa
