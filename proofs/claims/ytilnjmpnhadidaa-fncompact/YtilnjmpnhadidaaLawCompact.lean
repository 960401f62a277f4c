/-
  The walk of the law of fewer routes. By the verifier.
-/
import Derived.Test.YtilnjmpnhadidaaM3
import Derived.Test.YtilnjmpnhadidaaCpComp
import Derived.Test.YtilnjmpnhadidaaCpAlikeS
import Derived.Test.YtilnjmpnhadidaaRtHopOf
import Derived.Test.YtilnjmpnhadidaaRtLike
import Derived.Test.YtilnjmpnhadidaaRtAddr
namespace Go.Proofs.Ytilnjmpnhadidaa
open Go.RowKit

/-- What lies in a world: lists of routes, and all that lay. -/
def Sc (w : World) (rows : List (Option Addr × List Rt)) (x : World) : Prop := (∀ p ∈ rows, RtsAt x p.1 p.2) ∧ Below w.heap.size w x
theorem Sc.below {w : World} {rows : List (Option Addr × List Rt)} {x y : World} (h : Sc w rows x) (g : Below x.heap.size x y) : Sc w rows y :=
  ⟨fun p hp => (h.1 p hp).below g, h.2.trans (g.mono h.2.size)⟩
theorem Sc.add {w : World} {rows : List (Option Addr × List Rt)} {x y : World} (h : Sc w rows x) (g : Below x.heap.size x y) (a : Option Addr) (l : List Rt) (hr : RtsAt y a l) : Sc w ((a, l) :: rows) y := by
  have h2 := h.below g
  refine ⟨fun p hp => ?_, h2.2⟩
  rcases List.mem_cons.1 hp with rfl | h1
  · exact hr
  · exact h2.1 p h1
theorem Sc.at {w : World} {rows : List (Option Addr × List Rt)} {x : World} (h : Sc w rows x) (p : Option Addr × List Rt) (hp : p ∈ rows) : RtsAt x p.1 p.2 := h.1 p hp
theorem Sc.less {w : World} {rows rows' : List (Option Addr × List Rt)} {x : World} (h : Sc w rows x) (hs : ∀ p ∈ rows', p ∈ rows) : Sc w rows' x := ⟨fun p hp => h.1 p (hs p hp), h.2⟩

theorem hopV_nil (x : Int) : hopV [] x = -1 := by
  unfold hopV
  split
  · exact hop_none (by simp)
  · rfl
theorem hopV_bad {l : List Rt} (h : ¬ rtsOk l = true) (x : Int) : hopV l x = -1 := by
  unfold hopV
  rw [if_neg (fun e => h e.1)]
theorem hopV_same {l m : List Rt} (hl : rtsOk l = true) (hm : rtsOk m = true) (h : ∀ x, hopL m x = hopL l x) (x : Int) : hopV m x = hopV l x := by
  unfold hopV
  rw [hl, hm, h]
theorem comp_hopV (l : List Rt) (x : Int) : hopV (compV l) x = hopV l x := by
  by_cases h : rtsOk l = true
  · have q := comp_all l.length l (Nat.le_refl _) h
    unfold compV
    rw [if_pos h]
    exact hopV_same h q.1 q.2.2.1 x
  · unfold compV
    rw [if_neg h, hopV_nil, hopV_bad h]
theorem trim_hopV (l : List Rt) (x : Int) : hopV (trimV l) x = hopV l x := by
  by_cases h : rtsOk l = true
  · unfold trimV
    rw [if_pos h]
    exact hopV_same h (trim_ok h).1 (fun x => trim_hop (fine_of h) x) x
  · unfold trimV
    rw [if_neg h, hopV_nil, hopV_bad h]
theorem pair_hopV (l : List Rt) (x : Int) : hopV (pairV l) x = hopV l x := by
  by_cases h : rtsOk l = true
  · unfold pairV
    rw [if_pos h]
    exact hopV_same h (pair_ok h) (fun x => pair_hop (fine_of h) x) x
  · unfold pairV
    rw [if_neg h, hopV_nil, hopV_bad h]
theorem alike_hopV {a b : List Rt} (h : alikeV a b = true) (x : Int) : hopV a x = hopV b x := by
  unfold alikeV at h
  rw [Bool.and_eq_true, Bool.and_eq_true] at h
  obtain ⟨h1, h2, h3⟩ := h
  unfold hopV
  rw [h1, h2]
  split
  · rename_i hx
    exact alike_hop (fine_of h1) (fine_of h2) h3 x (inB_true.1 hx.2).2
  · rfl
theorem comp_facts {l : List Rt} (h : rtsOk l = true) : rtsOk (compV l) = true ∧ alikeV l (compV l) = true ∧ compV (compV l) = compV l := by
  have q := comp_all l.length l (Nat.le_refl _) h
  have e : compV l = compL l := by unfold compV; rw [if_pos h]
  rw [e]
  refine ⟨q.1, ?_, ?_⟩
  · unfold alikeV
    rw [h, q.1]
    exact alike_of fun x => (q.2.2.1 x).symm
  · unfold compV
    rw [if_pos q.1]
    exact comp_again h
theorem lens_all (l : List Rt) : (compV l).length ≤ l.length ∧ (trimV l).length ≤ l.length ∧ (pairV l).length ≤ l.length := by
  by_cases h : rtsOk l = true
  · unfold compV trimV pairV
    rw [if_pos h, if_pos h, if_pos h]
    exact ⟨(comp_all l.length l (Nat.le_refl _) h).2.1, (trim_ok h).2, pair_length (fine_of h)⟩
  · unfold compV trimV pairV
    rw [if_neg h, if_neg h, if_neg h]
    simp
theorem lens_bad {l : List Rt} (h : rtsOk l = false) : (compV l).length = 0 ∧ (trimV l).length = 0 ∧ (pairV l).length = 0 := by
  unfold compV trimV pairV
  rw [h]
  simp

set_option maxHeartbeats 6400000 in
set_option maxRecDepth 100000 in
theorem fnCompact_walk (a : Option Addr) (len cap : Nat) (w : World)
    (hcode : ∀ k, k < len → ∃ b off z, a = some ⟨b, off, none⟩ ∧ b < w.heap.size ∧ w.cell? ⟨b, off + k, none⟩ = some (.int .u8 z) ∧ 0 ≤ z ∧ z ≤ 255) :
    Calls Try.prog 3 #[.slice a len cap] w fun e w' => e = .returned (.bool true) ∧ Below w.heap.size w w' := by
  by_cases hbig : 4096 < len
  · clear hcode
    go_enter Try.func3, Try.ntmps3
    go_wp2
    go_ret
    exact ⟨rfl, Below.refl _ _⟩
  have hc : Hid (Code w a len) := ⟨by omega, hcode⟩
  have hb : Hid (Below w.heap.size w w) := Below.refl _ _
  clear hcode
  go_enter Try.func3, Try.ntmps3
  go_wp2_with (go_at_call 8; go_in)
  refine (drawComp hc _ hb).mono ?_
  rintro e w1 ⟨⟨g, c, L, rfl, hL, hLc, r1⟩, b1⟩
  have K1 : Hid (Sc w [(some ⟨g, 0, none⟩, L)] w1) := ⟨fun p hp => by rcases List.mem_singleton.1 hp with rfl; exact r1, b1⟩
  clear r1 b1 hb
  have IC := fun w h => implComp (some ⟨g, 0, none⟩) c L w (by omega) (by simp) h
  have IT := fun w h => implTrim (some ⟨g, 0, none⟩) c L w (by omega) (by simp) h
  have IP := fun w h => implPair (some ⟨g, 0, none⟩) c L w (by omega) (by simp) h
  have SC := fun w h => specComp (some ⟨g, 0, none⟩) c L w (by omega) (by simp) h
  have ST := fun w h => specTrim (some ⟨g, 0, none⟩) c L w (by omega) (by simp) h
  have SP := fun w h => specPair (some ⟨g, 0, none⟩) c L w (by omega) (by simp) h
  have OS := fun w h => specOk (some ⟨g, 0, none⟩) c L w (by omega) h
  have HL := fun x w h => implHop (some ⟨g, 0, none⟩) c L x w (by omega) hLc h
  have F1 := comp_hopV L
  have F2 := trim_hopV L
  have F3 := pair_hopV L
  have F4 := @comp_facts L
  have F5 := lens_all L
  have F6 := @lens_bad L
  obtain ⟨C, hC⟩ : ∃ X, compV L = X := ⟨_, rfl⟩
  obtain ⟨T, hT⟩ : ∃ X, trimV L = X := ⟨_, rfl⟩
  obtain ⟨P, hP⟩ : ∃ X, pairV L = X := ⟨_, rfl⟩
  rw [hC] at IC SC F1 F4 F5 F6
  rw [hT] at IT ST F2 F5 F6
  rw [hP] at IP SP F3 F5 F6
  clear hC hT hP
  have ShC : Hid (∀ base w v, RRow base w v C → ∃ a c, v = .slice a C.length c ∧ RtsAt w a C ∧ C.length ≤ c ∧ (a = none → c = 0)) := by
    show ∀ base w v, _ → _
    intro base w v h
    obtain ⟨a, c, rfl⟩ := h.shape
    exact ⟨a, c, rfl, h.at, h.cap, h.none⟩
  have ShT : Hid (∀ base w v, RRow base w v T → ∃ a c, v = .slice a T.length c ∧ RtsAt w a T ∧ T.length ≤ c ∧ (a = none → c = 0)) := by
    show ∀ base w v, _ → _
    intro base w v h
    obtain ⟨a, c, rfl⟩ := h.shape
    exact ⟨a, c, rfl, h.at, h.cap, h.none⟩
  have ShP : Hid (∀ base w v, RRow base w v P → ∃ a c, v = .slice a P.length c ∧ RtsAt w a P ∧ P.length ≤ c ∧ (a = none → c = 0)) := by
    show ∀ base w v, _ → _
    intro base w v h
    obtain ⟨a, c, rfl⟩ := h.shape
    exact ⟨a, c, rfl, h.at, h.cap, h.none⟩
  have LC := fun a1 a2 c1 c2 w h1 h2 => likeRt a1 a2 c1 c2 C w (by omega) h1 h2
  have LT := fun a1 a2 c1 c2 w h1 h2 => likeRt a1 a2 c1 c2 T w (by omega) h1 h2
  have LP := fun a1 a2 c1 c2 w h1 h2 => likeRt a1 a2 c1 c2 P w (by omega) h1 h2
  have HC := fun a c x w hc h => implHop a c C x w (by omega) hc h
  have HT := fun a c x w hc h => implHop a c T x w (by omega) hc h
  have HP := fun a c x w hc h => implHop a c P x w (by omega) hc h
  have OC := fun a c w h => implOk a c C w (by omega) h
  have CC := fun a c w hn h => implComp a c C w (by omega) hn h
  have AC := fun a2 c2 w hc2 hn2 h1 h2 => implAlike (some ⟨g, 0, none⟩) a2 c c2 L C w (by omega) (by omega) hLc hc2 (by simp) hn2 h1 h2
  generalize rtsOk L = ok at OS F4 F6
  obtain ⟨n, hn⟩ : ∃ n, L.length = n := ⟨_, rfl⟩
  obtain ⟨nc, hnc⟩ : ∃ n, C.length = n := ⟨_, rfl⟩
  obtain ⟨nt, hnt⟩ : ∃ n, T.length = n := ⟨_, rfl⟩
  obtain ⟨np, hnp⟩ : ∃ n, P.length = n := ⟨_, rfl⟩
  simp only [hn] at IC IT IP SC ST SP OS HL F5 AC hL hLc ⊢
  simp only [hnc] at ShC LC HC OC CC AC F5 F6
  simp only [hnt] at ShT LT HT F5 F6
  simp only [hnp] at ShP LP HP F5 F6
  clear hn hnc hnt hnp
  have IC' : Hid _ := IC
  have IT' : Hid _ := IT
  have IP' : Hid _ := IP
  have SC' : Hid _ := SC
  have ST' : Hid _ := ST
  have SP' : Hid _ := SP
  have OS' : Hid _ := OS
  have HL' : Hid _ := HL
  have F1' : Hid _ := F1
  have F2' : Hid _ := F2
  have F3' : Hid _ := F3
  have F4' : Hid _ := F4
  have F6' : Hid _ := F6
  have LC' : Hid _ := LC
  have LT' : Hid _ := LT
  have LP' : Hid _ := LP
  have HC' : Hid _ := HC
  have HT' : Hid _ := HT
  have HP' : Hid _ := HP
  have OC' : Hid _ := OC
  have CC' : Hid _ := CC
  have AC' : Hid _ := AC
  clear IC IT IP SC ST SP OS HL F1 F2 F3 F4 F6 LC LT LP HC HT HP OC CC AC
  obtain ⟨f1, f2, f3⟩ := F5
  go_wp2_with fail
  refine (IC'.out _ (K1.out.at (some ⟨g, 0, none⟩, L) (by simp))).mono ?_
  rintro e w2 ⟨⟨v, rfl, r2⟩, b2⟩
  obtain ⟨a4, c4, rfl, t2, hc4, hn4⟩ := ShC.out _ _ _ r2
  have K2 : Hid (Sc w [(a4, C), (some ⟨g, 0, none⟩, L)] w2) := K1.out.add b2 _ C t2
  have N4 : Hid _ := hn4
  clear r2 b2 t2 K1 hn4
  go_wp2_with fail
  refine (IT'.out _ (K2.out.at (some ⟨g, 0, none⟩, L) (by simp))).mono ?_
  rintro e w3 ⟨⟨v, rfl, r3⟩, b3⟩
  obtain ⟨a5, c5, rfl, t3, hc5, -⟩ := ShT.out _ _ _ r3
  have K3 : Hid (Sc w [(a5, T), (a4, C), (some ⟨g, 0, none⟩, L)] w3) := K2.out.add b3 _ T t3
  clear r3 b3 t3 K2
  go_wp2_with fail
  refine (IP'.out _ (K3.out.at (some ⟨g, 0, none⟩, L) (by simp))).mono ?_
  rintro e w4 ⟨⟨v, rfl, r4⟩, b4⟩
  obtain ⟨a6, c6, rfl, t4, hc6, -⟩ := ShP.out _ _ _ r4
  have K4 : Hid (Sc w [(a6, P), (a5, T), (a4, C), (some ⟨g, 0, none⟩, L)] w4) := K3.out.add b4 _ P t4
  clear r4 b4 t4 K3
  go_wp2_with fail
  refine (drawAlike hc _ K4.out.2).mono ?_
  rintro e w5 ⟨⟨a7, a8, c7, c8, A, B, rfl, hA, hB, hc7, hc8, hn7, hn8, t7, t8⟩, b5⟩
  have K5 : Hid (Sc w [(a8, B), (a7, A), (a6, P), (a5, T), (a4, C), (some ⟨g, 0, none⟩, L)] w5) := (K4.out.add b5 a7 A t7).add (Below.refl _ _) a8 B t8
  clear b5 t7 t8 K4
  have AI := fun w h1 h2 => implAlike a7 a8 c7 c8 A B w (by omega) (by omega) hc7 hc8 hn7 hn8 h1 h2
  have AS := fun w h1 h2 => specAlike a7 a8 c7 c8 A B w (by omega) (by omega) hn7 hn8 h1 h2
  have HA := fun x w h => implHop a7 c7 A x w (by omega) hc7 h
  have HB := fun x w h => implHop a8 c8 B x w (by omega) hc8 h
  have F7 := @alike_hopV A B
  generalize alikeV A B = k at AI AS F7
  obtain ⟨na, hna⟩ : ∃ n, A.length = n := ⟨_, rfl⟩
  obtain ⟨nb, hnb⟩ : ∃ n, B.length = n := ⟨_, rfl⟩
  simp only [hna] at AI AS HA hA hc7 ⊢
  simp only [hnb] at AI AS HB hB hc8 ⊢
  have AI' : Hid _ := AI
  have AS' : Hid _ := AS
  have HA' : Hid _ := HA
  have HB' : Hid _ := HB
  have F7' : Hid _ := F7
  clear AI AS HA HB F7 hna hnb hn7 hn8 hc7 hc8
  go_wp2_with fail
  refine (AI'.out _ (K5.out.at (a7, A) (by simp)) (K5.out.at (a8, B) (by simp))).mono ?_
  rintro e w6 ⟨rfl, b6⟩
  have K6 : Hid (Sc w [(a8, B), (a7, A), (a6, P), (a5, T), (a4, C), (some ⟨g, 0, none⟩, L)] w6) := K5.out.below b6
  clear b6 K5
  go_wp2_with fail
  refine (SC'.out _ (K6.out.at (some ⟨g, 0, none⟩, L) (by simp))).mono ?_
  rintro e w7 ⟨⟨v, rfl, r7⟩, b7⟩
  obtain ⟨aq, cq, rfl, t7, -, -⟩ := ShC.out _ _ _ r7
  have K7 : Hid (Sc w [(aq, C), (a8, B), (a7, A), (a6, P), (a5, T), (a4, C), (some ⟨g, 0, none⟩, L)] w7) := K6.out.add b7 _ C t7
  clear r7 b7 t7 K6
  go_wp2_with fail
  refine (LC'.out _ _ _ _ _ (K7.out.at (a4, C) (by simp)) (K7.out.at (aq, C) (by simp))).mono ?_
  rintro e w8 ⟨rfl, b8⟩
  have K8 : Hid (Sc w [(a8, B), (a7, A), (a6, P), (a5, T), (a4, C), (some ⟨g, 0, none⟩, L)] w8) := (K7.out.below b8).less (fun p hp => List.mem_cons_of_mem _ hp)
  clear b8 K7
  go_wp2_with fail
  refine (ST'.out _ (K8.out.at (some ⟨g, 0, none⟩, L) (by simp))).mono ?_
  rintro e w9 ⟨⟨v, rfl, r9⟩, b9⟩
  obtain ⟨ar, cr, rfl, t9, -, -⟩ := ShT.out _ _ _ r9
  have K9 : Hid (Sc w [(ar, T), (a8, B), (a7, A), (a6, P), (a5, T), (a4, C), (some ⟨g, 0, none⟩, L)] w9) := K8.out.add b9 _ T t9
  clear r9 b9 t9 K8
  go_wp2_with fail
  refine (LT'.out _ _ _ _ _ (K9.out.at (a5, T) (by simp)) (K9.out.at (ar, T) (by simp))).mono ?_
  rintro e wA ⟨rfl, bA⟩
  have KA : Hid (Sc w [(a8, B), (a7, A), (a6, P), (a5, T), (a4, C), (some ⟨g, 0, none⟩, L)] wA) := (K9.out.below bA).less (fun p hp => List.mem_cons_of_mem _ hp)
  clear bA K9
  go_wp2_with fail
  refine (SP'.out _ (KA.out.at (some ⟨g, 0, none⟩, L) (by simp))).mono ?_
  rintro e wB ⟨⟨v, rfl, rB⟩, bB⟩
  obtain ⟨as2, cs2, rfl, tB, -, -⟩ := ShP.out _ _ _ rB
  have KB : Hid (Sc w [(as2, P), (a8, B), (a7, A), (a6, P), (a5, T), (a4, C), (some ⟨g, 0, none⟩, L)] wB) := KA.out.add bB _ P tB
  clear rB bB tB KA
  go_wp2_with fail
  refine (LP'.out _ _ _ _ _ (KB.out.at (a6, P) (by simp)) (KB.out.at (as2, P) (by simp))).mono ?_
  rintro e wC ⟨rfl, bC⟩
  have KC : Hid (Sc w [(a8, B), (a7, A), (a6, P), (a5, T), (a4, C), (some ⟨g, 0, none⟩, L)] wC) := (KB.out.below bC).less (fun p hp => List.mem_cons_of_mem _ hp)
  clear bC KB
  go_wp2_with fail
  refine (AS'.out _ (KC.out.at (a7, A) (by simp)) (KC.out.at (a8, B) (by simp))).mono ?_
  rintro e wD ⟨rfl, bD⟩
  have KD : Hid (Sc w [(a8, B), (a7, A), (a6, P), (a5, T), (a4, C), (some ⟨g, 0, none⟩, L)] wD) := KC.out.below bD
  clear bD KC
  go_wp2_with fail
  go_loopw [10, 11] (fun i s wr => ∃ k : Nat, k ≤ 12 ∧ i = .int .i64 k ∧ Hid (Sc w [(a8, B), (a7, A), (a6, P), (a5, T), (a4, C), (some ⟨g, 0, none⟩, L)] wr)) (fun i _ _ => 12 - (intOf i).toNat)
  case atStart => exact ⟨0, by omega, rfl, KD⟩
  case round =>
    clear KD
    obtain ⟨k2, hk2, rfl, M0⟩ := hrel
    by_cases h12 : k2 < 12
    · have h12i : (k2 : Int) < 12 := by omega
      go_wp2_with fail
      refine (lawAddr hc _ _ M0.out.2).mono ?_
      rintro e wy ⟨⟨x, rfl⟩, hwy⟩
      have hwy := hwy.symm
      subst hwy
      have G1 := F1'.out x
      have G2 := F2'.out x
      have G3 := F3'.out x
      have G7 := fun h => F7'.out h x
      have XC := HC'.out a4 c4 x
      have XT := HT'.out a5 c5 x
      have XP := HP'.out a6 c6 x
      have XL := HL'.out x
      have XA := HA'.out x
      have XB := HB'.out x
      rw [G1] at XC
      rw [G2] at XT
      rw [G3] at XP
      generalize hopV L x = y at XC XT XP XL
      generalize hopV A x = ya at XA G7
      generalize hopV B x = yb at XB G7
      have XC' : Hid _ := XC
      have XT' : Hid _ := XT
      have XP' : Hid _ := XP
      have XL' : Hid _ := XL
      have XA' : Hid _ := XA
      have XB' : Hid _ := XB
      have G7' : Hid _ := G7
      clear XC XT XP XL XA XB G1 G2 G3 G7
      go_wp2_with fail
      refine (XC'.out _ hc4 (M0.out.at (a4, C) (by simp))).mono ?_
      rintro e u1 ⟨rfl, b1⟩
      have M1 : Hid (Sc w [(a8, B), (a7, A), (a6, P), (a5, T), (a4, C), (some ⟨g, 0, none⟩, L)] u1) := M0.out.below b1
      clear b1 M0
      go_wp2_with fail
      refine (XL'.out _ (M1.out.at (some ⟨g, 0, none⟩, L) (by simp))).mono ?_
      rintro e u2 ⟨rfl, b2⟩
      have M2 : Hid (Sc w [(a8, B), (a7, A), (a6, P), (a5, T), (a4, C), (some ⟨g, 0, none⟩, L)] u2) := M1.out.below b2
      clear b2 M1
      go_wp2_with fail
      refine (XT'.out _ hc5 (M2.out.at (a5, T) (by simp))).mono ?_
      rintro e u3 ⟨rfl, b3⟩
      have M3 : Hid (Sc w [(a8, B), (a7, A), (a6, P), (a5, T), (a4, C), (some ⟨g, 0, none⟩, L)] u3) := M2.out.below b3
      clear b3 M2
      go_wp2_with fail
      refine (XL'.out _ (M3.out.at (some ⟨g, 0, none⟩, L) (by simp))).mono ?_
      rintro e u4 ⟨rfl, b4⟩
      have M4 : Hid (Sc w [(a8, B), (a7, A), (a6, P), (a5, T), (a4, C), (some ⟨g, 0, none⟩, L)] u4) := M3.out.below b4
      clear b4 M3
      go_wp2_with fail
      refine (XP'.out _ hc6 (M4.out.at (a6, P) (by simp))).mono ?_
      rintro e u5 ⟨rfl, b5⟩
      have M5 : Hid (Sc w [(a8, B), (a7, A), (a6, P), (a5, T), (a4, C), (some ⟨g, 0, none⟩, L)] u5) := M4.out.below b5
      clear b5 M4
      go_wp2_with fail
      refine (XL'.out _ (M5.out.at (some ⟨g, 0, none⟩, L) (by simp))).mono ?_
      rintro e u6 ⟨rfl, b6⟩
      have M6 : Hid (Sc w [(a8, B), (a7, A), (a6, P), (a5, T), (a4, C), (some ⟨g, 0, none⟩, L)] u6) := M5.out.below b6
      clear b6 M5
      cases k
      · go_wp2
        go_roundw
        case rel => exact ⟨k2 + 1, by omega, by go_num, M6⟩
        case measure => simp [intOf]; omega
      · have e7 := G7'.out rfl
        subst e7
        go_wp2_with fail
        refine (XA'.out _ (M6.out.at (a7, A) (by simp))).mono ?_
        rintro e u7 ⟨rfl, b7⟩
        have M7 : Hid (Sc w [(a8, B), (a7, A), (a6, P), (a5, T), (a4, C), (some ⟨g, 0, none⟩, L)] u7) := M6.out.below b7
        clear b7 M6
        go_wp2_with fail
        refine (XB'.out _ (M7.out.at (a8, B) (by simp))).mono ?_
        rintro e u8 ⟨rfl, b8⟩
        have M8 : Hid (Sc w [(a8, B), (a7, A), (a6, P), (a5, T), (a4, C), (some ⟨g, 0, none⟩, L)] u8) := M7.out.below b8
        clear b8 M7
        go_wp2
        go_roundw
        case rel => exact ⟨k2 + 1, by omega, by go_num, M8⟩
        case measure => simp [intOf]; omega
    · obtain rfl : k2 = 12 := by omega
      go_wp2_with fail
      refine (OS'.out _ (M0.out.at (some ⟨g, 0, none⟩, L) (by simp))).mono ?_
      rintro e u1 ⟨rfl, b1⟩
      have M1 : Hid (Sc w [(a8, B), (a7, A), (a6, P), (a5, T), (a4, C), (some ⟨g, 0, none⟩, L)] u1) := M0.out.below b1
      clear b1 M0
      cases ok
      · obtain ⟨e1, e2, e3⟩ := F6'.out rfl
        subst e1
        subst e2
        subst e3
        go_wp2
        go_ret
        exact ⟨rfl, M1.out.2⟩
      · have G := F4'.out rfl
        have AC2 := AC'.out
        have OC2 := OC'.out
        have CC2 := CC'.out
        rw [G.2.1] at AC2
        rw [G.1] at OC2
        rw [G.2.2] at CC2
        have AC3 : Hid _ := AC2
        have OC3 : Hid _ := OC2
        have CC3 : Hid _ := CC2
        clear AC2 OC2 CC2 G AC' OC' CC'
        go_wp2_with fail
        refine (AC3.out _ _ _ hc4 N4.out (M1.out.at (some ⟨g, 0, none⟩, L) (by simp)) (M1.out.at (a4, C) (by simp))).mono ?_
        rintro e u2 ⟨rfl, b2⟩
        have M2 : Hid (Sc w [(a8, B), (a7, A), (a6, P), (a5, T), (a4, C), (some ⟨g, 0, none⟩, L)] u2) := M1.out.below b2
        clear b2 M1
        go_wp2_with fail
        refine (OC3.out _ _ _ (M2.out.at (a4, C) (by simp))).mono ?_
        rintro e u3 ⟨rfl, b3⟩
        have M3 : Hid (Sc w [(a8, B), (a7, A), (a6, P), (a5, T), (a4, C), (some ⟨g, 0, none⟩, L)] u3) := M2.out.below b3
        clear b3 M2
        go_wp2_with fail
        refine (CC3.out _ _ _ N4.out (M3.out.at (a4, C) (by simp))).mono ?_
        rintro e u4 ⟨⟨v, rfl, r4⟩, b4⟩
        obtain ⟨az, cz, rfl, tz, -, -⟩ := ShC.out _ _ _ r4
        have M4 : Hid (Sc w [(az, C), (a8, B), (a7, A), (a6, P), (a5, T), (a4, C), (some ⟨g, 0, none⟩, L)] u4) := M3.out.add b4 _ C tz
        clear r4 b4 tz M3
        go_wp2_with fail
        refine (LC'.out _ _ _ _ _ (M4.out.at (az, C) (by simp)) (M4.out.at (a4, C) (by simp))).mono ?_
        rintro e u5 ⟨rfl, b5⟩
        have M5 : Hid (Below w.heap.size w u5) := (M4.out.below b5).2
        clear b5 M4
        go_wp2
        go_ret
        exact ⟨rfl, M5.out⟩
end Go.Proofs.Ytilnjmpnhadidaa
