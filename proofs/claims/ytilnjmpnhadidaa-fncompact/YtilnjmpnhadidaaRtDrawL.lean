/-
  The model's drawing of lists of routes. By the verifier.
-/
import Derived.Test.YtilnjmpnhadidaaRtDrawR
import Derived.Test.YtilnjmpnhadidaaRtPutS
namespace Go.Proofs.Ytilnjmpnhadidaa
open Go.RowKit

theorem putL_length (l : List Rt) (r : Rt) : (putL l r).length ≤ l.length + 1 := by
  unfold putL
  have := insN_le l r
  split
  · simp
  · simp; omega
/-- The call's own memory: the list that is drawn, the cursor. -/
structure DrL (W : World) (bc : Nat) (ac : Option Addr) (len cap : Nat) (w : World) (v : Value) (L : List Rt) (wr : World) : Prop where
  row : RRow w.heap.size wr v L
  cur : Cur W bc ac len cap wr
  kp : Keep bc w wr
  bl : bc < w.heap.size
theorem DrL.draw {W : World} {bc : Nat} {ac : Option Addr} {len cap : Nat} {w : World} {v : Value} {L : List Rt} {wr wd : World} (h : DrL W bc ac len cap w v L wr) (c : Cur W bc ac len cap wd) (k : Keep bc wr wd) : DrL W bc ac len cap w v L wd := by
  have := h.bl
  exact ⟨h.row.carry fun i hi hl => k.block i (by have := h.row.lt i hi; omega) hl, c, h.kp.trans k, h.bl⟩
theorem DrL.more {W : World} {bc : Nat} {ac : Option Addr} {len cap : Nat} {w : World} {v : Value} {L : List Rt} {wr : World} (h : DrL W bc ac len cap w v L wr) (o : Obj) : DrL W bc ac len cap w v L (wr.alloc o) :=
  h.draw (h.cur.alloc _) ((Keep.refl _ _).alloc _)
theorem DrL.grow {W : World} {bc : Nat} {ac : Option Addr} {len cap : Nat} {w : World} {v v' : Value} {L L' : List Rt} {wr wd : World} (h : DrL W bc ac len cap w v L wr) (g : Below w.heap.size wr wd) (r : RRow w.heap.size wd v' L') : DrL W bc ac len cap w v' L' wd :=
  ⟨r, h.cur.below h.bl g, ⟨Nat.le_trans h.kp.size g.size, fun k h1 h2 => (g.block k h2).trans (h.kp.block k h1 h2)⟩, h.bl⟩

set_option maxHeartbeats 3200000 in
set_option maxRecDepth 100000 in
theorem drawList {W : World} {bc : Nat} {a : Option Addr} {len cap : Nat} (hc : Hid (Code W a len)) (w : World) (cur : Hid (Cur W bc a len cap w)) :
    Calls Try.prog 64 #[.pointer (some ⟨bc, 0, none⟩)] w fun e w' => ∃ (g c : Nat) (L : List Rt), e = .returned (.slice (some ⟨g, 0, none⟩) L.length c) ∧ L.length ≤ 8 ∧ DrL W bc a len cap w (.slice (some ⟨g, 0, none⟩) L.length c) L w' := by
  have hbc := cur.out.lt
  go_enter Try.func64, Try.ntmps64
  go_wp2_with fail
  have H0 : Hid (DrL W bc a len cap w (.slice (some ⟨w.heap.size, 0, none⟩) 0 0) [] (w.alloc (.cells #[] 53))) := ⟨row_built w _ (Nat.le_refl _), cur.out.alloc _, (Keep.refl _ _).alloc _, hbc⟩
  refine (drawBelow hc 9 (by omega) _ H0.out.cur).mono ?_
  rintro e w1 ⟨⟨x, rfl, x0, x1⟩, c1, k1⟩
  have H1 : Hid (DrL W bc a len cap w (.slice (some ⟨w.heap.size, 0, none⟩) 0 0) [] w1) := H0.out.draw c1 k1
  clear c1 k1 H0
  go_wp2_with fail
  go_loopw [3, 4] (fun s n wr => ∃ (g c m : Nat) (L : List Rt), s = .slice (some ⟨g, 0, none⟩) L.length c ∧ n = .int .i64 m ∧ L.length + m ≤ 8 ∧ Hid (DrL W bc a len cap w (.slice (some ⟨g, 0, none⟩) L.length c) L wr)) (fun _ n _ => (intOf n).toNat)
  case atStart =>
    obtain ⟨j, rfl⟩ := Int.eq_ofNat_of_zero_le x0
    exact ⟨_, 0, j, [], rfl, rfl, by simp; omega, H1⟩
  case round =>
    clear H1
    obtain ⟨g, c, m, L, rfl, rfl, hm, H2⟩ := hrel
    by_cases h0 : m = 0
    · subst h0
      go_wp2
      go_ret
      exact ⟨g, c, L, rfl, by omega, H2.out⟩
    · have hm1 : (0 : Int) < m := by omega
      go_wp2_with fail
      refine (drawRoute hc _ H2.out.cur).mono ?_
      rintro e w3 ⟨⟨⟨net, bits, hop⟩, rfl⟩, c3, k3⟩
      have H3 : Hid (DrL W bc a len cap w (.slice (some ⟨g, 0, none⟩) L.length c) L w3) := H2.out.draw c3 k3
      clear c3 k3 H2
      simp only [Rt.val]
      go_wp2_with fail
      refine (specRoute ⟨net, bits, hop⟩ _).mono ?_
      rintro e w4 ⟨rfl, hw4⟩
      have cc : w4.cell? ⟨w3.heap.size, 0, none⟩ = some (.int .i64 net) ∧ w4.cell? ⟨w3.heap.size, 1, none⟩ = some (.int .i64 bits) ∧ w4.cell? ⟨w3.heap.size, 2, none⟩ = some (.int .i64 hop) := by
        have hb : Boxed w4 w3.heap.size #[.int .i64 net, .int .i64 bits, .int .i64 hop] 53 := by rw [hw4]; exact (Boxed.new w3 _ _).more _
        exact ⟨hb.cell 0 rfl, hb.cell 1 rfl, hb.cell 2 rfl⟩
      have H4 : Hid (DrL W bc a len cap w (.slice (some ⟨g, 0, none⟩) L.length c) L w4) := by rw [hw4]; exact (H3.out.more _).more _
      clear hw4 H3
      obtain ⟨cc0, cc1, cc2⟩ := cc
      generalize w3.heap.size = B at cc0 cc1 cc2 ⊢
      cases hok : (⟨net, bits, hop⟩ : Rt).ok
      · go_wp2
        go_roundw
        case rel => exact ⟨g, c, m - 1, L, rfl, by rw [show ((m - 1 : Nat) : Int) = (m : Int) - 1 by omega], by omega, H4⟩
        case measure => simp [intOf]; omega
      · clear hok
        go_wp2_with fail
        refine (specL4Put w.heap.size g c L ⟨net, bits, hop⟩ _ (by omega) H4.out.kp.size H4.out.row).mono ?_
        rintro e w5 ⟨⟨v, rfl, r5, hv⟩, b5⟩
        obtain ⟨g5, c5, rfl⟩ := r5.some hv
        have hl5 := putL_length L ⟨net, bits, hop⟩
        generalize putL L ⟨net, bits, hop⟩ = L5 at r5 hl5 ⊢
        have H5 : Hid (DrL W bc a len cap w (.slice (some ⟨g5, 0, none⟩) L5.length c5) L5 w5) := H4.out.grow b5 r5
        clear r5 b5 H4 hv cc0 cc1 cc2
        go_wp2
        go_roundw
        case rel => exact ⟨g5, c5, m - 1, L5, rfl, by rw [show ((m - 1 : Nat) : Int) = (m : Int) - 1 by omega], by omega, H5⟩
        case measure => simp [intOf]; omega

set_option maxHeartbeats 3200000 in
set_option maxRecDepth 100000 in
theorem drawLists {W : World} {bc : Nat} {a : Option Addr} {len cap : Nat} (hc : Hid (Code W a len)) (w : World) (cur : Hid (Cur W bc a len cap w)) :
    Calls Try.prog 33 #[.pointer (some ⟨bc, 0, none⟩)] w fun e w' => ∃ (g c : Nat) (L : List Rt), e = .returned (.slice (some ⟨g, 0, none⟩) L.length c) ∧ L.length ≤ 64 ∧ DrL W bc a len cap w (.slice (some ⟨g, 0, none⟩) L.length c) L w' := by
  have hbc := cur.out.lt
  go_enter Try.func33, Try.ntmps33
  go_wp2_with fail
  refine (drawList hc _ cur).mono ?_
  rintro e w1 ⟨g, c, L, rfl, hL, d1⟩
  have H1 : Hid (DrL W bc a len cap w (.slice (some ⟨g, 0, none⟩) L.length c) L w1) := d1
  clear d1
  go_wp2_with fail
  refine (drawOnce hc 16 (by omega) _ H1.out.cur).mono ?_
  rintro e w2 ⟨⟨bo, rfl⟩, c2, k2⟩
  have H2 : Hid (DrL W bc a len cap w (.slice (some ⟨g, 0, none⟩) L.length c) L w2) := H1.out.draw c2 k2
  clear c2 k2 H1
  cases bo
  · obtain ⟨g4, c4, L4, w4, hL4, hg4, H4⟩ : ∃ (g4 c4 : Nat) (L4 : List Rt) (w4 : World), L4.length ≤ 9 ∧ (Value.slice (some ⟨g, 0, none⟩) L.length c = .slice (some ⟨g4, 0, none⟩) L4.length c4 ∧ w2 = w4) ∧ Hid (DrL W bc a len cap w (.slice (some ⟨g4, 0, none⟩) L4.length c4) L4 w4) := ⟨g, c, L, w2, by omega, ⟨rfl, rfl⟩, H2⟩
    obtain ⟨hg4, rfl⟩ := hg4
    rw [hg4]
    clear H2 hL hg4
    go_wp2_with fail
    refine (drawOnce hc 40 (by omega) _ H4.out.cur).mono ?_
    rintro e w5 ⟨⟨bp, rfl⟩, c5, k5⟩
    have H5 : Hid (DrL W bc a len cap w (.slice (some ⟨g4, 0, none⟩) L4.length c4) L4 w5) := H4.out.draw c5 k5
    clear c5 k5 H4
    cases bp
    · go_wp2
      go_ret
      exact ⟨g4, c4, L4, rfl, by omega, H5.out⟩
    · have H6 : Hid (DrL W bc a len cap w (.slice (some ⟨w5.heap.size, 0, none⟩) 0 0) [] (w5.alloc (.cells #[] 53))) := H5.out.grow ((Below.refl _ _).alloc H5.out.kp.size _) (row_built w5 _ H5.out.kp.size)
      clear H5
      go_wp2_with fail
      go_loopw [3, 4] (fun s n wr => ∃ (g c m : Nat) (L : List Rt), s = .slice (some ⟨g, 0, none⟩) L.length c ∧ n = .int .i64 m ∧ L.length = m ∧ m ≤ 64 ∧ Hid (DrL W bc a len cap w (.slice (some ⟨g, 0, none⟩) L.length c) L wr)) (fun _ n _ => (64 - intOf n).toNat)
      case atStart => exact ⟨_, 0, 0, [], rfl, rfl, rfl, by omega, H6⟩
      case round =>
        clear H6
        obtain ⟨g7, c7, m, L7, rfl, rfl, hm, h64, H7⟩ := hrel
        have hm' : Hid (L7.length = m) := hm
        clear hm
        by_cases h0 : m = 64
        · have h1 : ¬ (m : Int) < 64 := by omega
          clear h0
          go_wp2
          go_ret
          exact ⟨g7, c7, L7, rfl, by have := hm'.out; omega, H7.out⟩
        · have h1 : (m : Int) < 64 := by omega
          go_wp2_with (at_builtin; refine row_app rfl (.tmp 21) (.tmp 27) rfl w.heap.size _ L7 _ 1 1 [⟨_, _, _⟩] rfl rfl rfl (H7.out.more _).row ((row_built1 _ w.heap.size ⟨_, _, _⟩ H7.out.kp.size).at) (by simp) (by have := hm'.out; simp; omega) (H7.out.more _).kp.size ?_)
          intro v w8 r8 b8 _ n8
          obtain ⟨g8, c8, rfl⟩ := r8.some (fun e => by cases n8 e)
          have H8 := (H7.out.more _).grow b8 r8
          clear r8 b8 n8
          go_wp2
          go_roundw
          case rel => exact ⟨g8, c8, m + 1, _, rfl, by simp, by simp [hm'.out], by omega, H8⟩
          case measure => simp [intOf]; omega
  · go_wp2_with fail
    refine (drawRoute hc _ H2.out.cur).mono ?_
    rintro e w3 ⟨⟨⟨net, bits, hop⟩, rfl⟩, c3, k3⟩
    have H3 : Hid (DrL W bc a len cap w (.slice (some ⟨g, 0, none⟩) L.length c) L w3) := H2.out.draw c3 k3
    clear c3 k3 H2
    simp only [Rt.val]
    go_wp2_with (at_builtin; refine row_app rfl (.tmp 9) (.tmp 12) rfl w.heap.size _ L _ 1 1 [⟨net, bits, hop⟩] rfl rfl rfl (H3.out.more _).row ((row_built1 _ w.heap.size ⟨net, bits, hop⟩ H3.out.kp.size).at) (by simp) (by simp; omega) (H3.out.more _).kp.size ?_)
    intro v w4 r4 b4 _ n4
    obtain ⟨g4, c4, rfl⟩ := r4.some (fun e => by cases n4 e)
    have hL4 : (L ++ [(⟨net, bits, hop⟩ : Rt)]).length ≤ 9 := by simp; omega
    generalize L ++ [(⟨net, bits, hop⟩ : Rt)] = L4 at r4 hL4
    have H4 : Hid (DrL W bc a len cap w (.slice (some ⟨g4, 0, none⟩) L4.length c4) L4 w4) := (H3.out.more _).grow b4 r4
    clear r4 b4 n4 H3 hL
    go_wp2_with fail
    refine (drawOnce hc 40 (by omega) _ H4.out.cur).mono ?_
    rintro e w5 ⟨⟨bp, rfl⟩, c5, k5⟩
    have H5 : Hid (DrL W bc a len cap w (.slice (some ⟨g4, 0, none⟩) L4.length c4) L4 w5) := H4.out.draw c5 k5
    clear c5 k5 H4
    cases bp
    · go_wp2
      go_ret
      exact ⟨g4, c4, L4, rfl, by omega, H5.out⟩
    · have H6 : Hid (DrL W bc a len cap w (.slice (some ⟨w5.heap.size, 0, none⟩) 0 0) [] (w5.alloc (.cells #[] 53))) := H5.out.grow ((Below.refl _ _).alloc H5.out.kp.size _) (row_built w5 _ H5.out.kp.size)
      clear H5
      go_wp2_with fail
      go_loopw [3, 4] (fun s n wr => ∃ (g c m : Nat) (L : List Rt), s = .slice (some ⟨g, 0, none⟩) L.length c ∧ n = .int .i64 m ∧ L.length = m ∧ m ≤ 64 ∧ Hid (DrL W bc a len cap w (.slice (some ⟨g, 0, none⟩) L.length c) L wr)) (fun _ n _ => (64 - intOf n).toNat)
      case atStart => exact ⟨_, 0, 0, [], rfl, rfl, rfl, by omega, H6⟩
      case round =>
        clear H6
        obtain ⟨g7, c7, m, L7, rfl, rfl, hm, h64, H7⟩ := hrel
        have hm' : Hid (L7.length = m) := hm
        clear hm
        by_cases h0 : m = 64
        · have h1 : ¬ (m : Int) < 64 := by omega
          clear h0
          go_wp2
          go_ret
          exact ⟨g7, c7, L7, rfl, by have := hm'.out; omega, H7.out⟩
        · have h1 : (m : Int) < 64 := by omega
          go_wp2_with (at_builtin; refine row_app rfl (.tmp 21) (.tmp 27) rfl w.heap.size _ L7 _ 1 1 [⟨_, _, _⟩] rfl rfl rfl (H7.out.more _).row ((row_built1 _ w.heap.size ⟨_, _, _⟩ H7.out.kp.size).at) (by simp) (by have := hm'.out; simp; omega) (H7.out.more _).kp.size ?_)
          intro v w8 r8 b8 _ n8
          obtain ⟨g8, c8, rfl⟩ := r8.some (fun e => by cases n8 e)
          have H8 := (H7.out.more _).grow b8 r8
          clear r8 b8 n8
          go_wp2
          go_roundw
          case rel => exact ⟨g8, c8, m + 1, _, rfl, by simp, by simp [hm'.out], by omega, H8⟩
          case measure => simp [intOf]; omega
end Go.Proofs.Ytilnjmpnhadidaa
