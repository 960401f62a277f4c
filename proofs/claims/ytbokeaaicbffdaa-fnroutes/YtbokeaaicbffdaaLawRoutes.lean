/-
  The walk of the law of routes. By the verifier.
-/
import Derived.Test.YtbokeaaicbffdaaRtDrawP
import Derived.Test.YtbokeaaicbffdaaRtLike
import Derived.Test.YtbokeaaicbffdaaRtAddr
import Derived.Test.YtbokeaaicbffdaaRtFacts
namespace Go.Proofs.Ytbokeaaicbffdaa
open Go.RowKit

/-- What lies in a world: lists of routes, the route put, all that lay. -/
def St (w : World) (B : Nat) (r : Rt) (rows : List (Option Addr × List Rt)) (x : World) : Prop :=
  (∀ p ∈ rows, RtsAt x p.1 p.2) ∧ Boxed x B #[.int .i64 r.net, .int .i64 r.bits, .int .i64 r.hop] 26 ∧ Below w.heap.size w x
theorem St.below {w : World} {B : Nat} {r : Rt} {rows : List (Option Addr × List Rt)} {x y : World} (h : St w B r rows x) (g : Below x.heap.size x y) : St w B r rows y :=
  ⟨fun p hp => (h.1 p hp).below g, h.2.1.below h.2.1.under g, h.2.2.trans (g.mono h.2.2.size)⟩
theorem St.add {w : World} {B : Nat} {r : Rt} {rows : List (Option Addr × List Rt)} {x y : World} (h : St w B r rows x) (g : Below x.heap.size x y) (a : Option Addr) (l : List Rt) (hr : RtsAt y a l) : St w B r ((a, l) :: rows) y := by
  have h2 := h.below g
  refine ⟨fun p hp => ?_, h2.2⟩
  rcases List.mem_cons.1 hp with rfl | h1
  · exact hr
  · exact h2.1 p h1
theorem St.at {w : World} {B : Nat} {r : Rt} {rows : List (Option Addr × List Rt)} {x : World} (h : St w B r rows x) (p : Option Addr × List Rt) (hp : p ∈ rows) : RtsAt x p.1 p.2 := h.1 p hp
theorem not_ok {l : List Rt} {r : Rt} (h : rtsOk l = false) : putsB l r = false ∧ putsL l r = [] := by
  refine ⟨by unfold putsB; rw [h]; rfl, by unfold putsL; rw [h]; rfl⟩
theorem ok_not {l : List Rt} {r : Rt} (h : rtsOk l = true) (hb : putsB l r = false) : putsL l r = l := by
  unfold putsL
  rw [if_pos h, if_neg (by rw [hb]; simp)]
theorem putsL_len {l : List Rt} {r : Rt} (h : l.length ≤ 64) : (putsL l r).length ≤ 65 := by
  unfold putsL
  have := putL_length l r
  split
  · split <;> omega
  · simp
theorem takeL_len {l : List Rt} {net bits : Int} (h : l.length ≤ 64) : (takeL l net bits).length ≤ 64 := by
  unfold takeL
  split
  · split
    · simp; omega
    · exact h
  · simp

set_option maxHeartbeats 6400000 in
set_option maxRecDepth 100000 in
theorem fnRoutes_walk (a : Option Addr) (len cap : Nat) (w : World)
    (hcode : ∀ k, k < len → ∃ b off z, a = some ⟨b, off, none⟩ ∧ b < w.heap.size ∧ w.cell? ⟨b, off + k, none⟩ = some (.int .u8 z) ∧ 0 ≤ z ∧ z ≤ 255) :
    Calls Try.prog 3 #[.slice a len cap] w fun e w' => e = .returned (.bool true) ∧ Below w.heap.size w w' := by
  by_cases hbig : 4096 < len
  · clear hcode
    go_enter Try.func3, Try.ntmps3
    go_wp2
    go_ret
    exact ⟨rfl, Below.refl _ _⟩
  have hc : Hid (Code w a len) := ⟨by omega, hcode⟩
  have hb : Hid (Below w.heap.size w w) := Below.refl _ _
  clear hcode
  go_enter Try.func3, Try.ntmps3
  go_wp2_with (go_at_call 4; go_in)
  refine (drawPut hc _ hb).mono ?_
  rintro e w1 ⟨⟨g, c, L, r, rfl, hL, hLc, r1⟩, b1⟩
  have H1 : Hid (RtsAt w1 (some ⟨g, 0, none⟩) L ∧ Below w.heap.size w w1) := ⟨r1, b1⟩
  clear r1 b1
  have PI := fun w h => implPut (some ⟨g, 0, none⟩) c L r w (by omega) (by simp) h
  have PS := fun w h => specPut (some ⟨g, 0, none⟩) c L r w (by omega) (by simp) h
  have OI := fun w h => implOk (some ⟨g, 0, none⟩) c L w (by omega) h
  have OS := fun w h => specOk (some ⟨g, 0, none⟩) c L w (by omega) h
  have HL := fun x w h => implHop (some ⟨g, 0, none⟩) c L x w (by omega) hLc h
  have FR := fun x w => implFits r x w
  have hX65 := putsL_len (r := r) hL
  have N1 := @not_ok L r
  have N2 := @ok_not L r
  have N3 := @put_good L r
  obtain ⟨X, hX⟩ : ∃ X, putsL L r = X := ⟨_, rfl⟩
  obtain ⟨is, his⟩ : ∃ b, putsB L r = b := ⟨_, rfl⟩
  rw [hX] at PI PS hX65 N1 N2 N3
  rw [his] at PI PS N1 N2 N3
  clear hX his
  have OX := fun a c w h => implOk a c X w (by omega) h
  have HX := fun a c x w hc h => implHop a c X x w (by omega) hc h
  have LX := fun a1 a2 c1 c2 w h1 h2 => likeRt a1 a2 c1 c2 X w (by omega) h1 h2
  have LL := fun a1 a2 c1 c2 w h1 h2 => likeRt a1 a2 c1 c2 L w (by omega) h1 h2
  have ShX : Hid (∀ base w v, RRow base w v X → ∃ a c, v = .slice a X.length c ∧ RtsAt w a X ∧ X.length ≤ c) := by
    show ∀ base w v, _ → _
    intro base w v h
    obtain ⟨a, c, rfl⟩ := h.shape
    exact ⟨a, c, rfl, h.at, h.cap⟩
  generalize hokL : rtsOk L = ok at OI OS N1 N2
  have HokL : Hid _ := hokL
  obtain ⟨n, hn⟩ : ∃ n, L.length = n := ⟨_, rfl⟩
  obtain ⟨xl, hxl⟩ : ∃ n, X.length = n := ⟨_, rfl⟩
  have Hn : Hid (L.length = n) := hn
  have Hxl : Hid (X.length = xl) := hxl
  unfold Rt.val at PI PS FR ⊢
  simp only [hn] at PI PS OI OS HL LL hL hLc N3 ⊢
  simp only [hxl] at OX HX LX ShX hX65 N3
  have PI' : Hid _ := PI
  have PS' : Hid _ := PS
  have OI' : Hid _ := OI
  have OS' : Hid _ := OS
  have HL' : Hid _ := HL
  have FR' : Hid _ := FR
  have OX' : Hid _ := OX
  have HX' : Hid _ := HX
  have LX' : Hid _ := LX
  have LL' : Hid _ := LL
  have N1' : Hid _ := N1
  have N2' : Hid _ := N2
  have N3' : Hid _ := N3
  clear PI PS OI OS HL FR OX HX LX LL N1 N2 N3 hn hxl hokL
  go_wp2_with fail
  have K1 : Hid (St w w1.heap.size r [(some ⟨g, 0, none⟩, L)] (w1.alloc (.cells #[.int .i64 r.net, .int .i64 r.bits, .int .i64 r.hop] 26))) := by
    refine ⟨fun p hp => ?_, Boxed.new _ _ _, H1.out.2.alloc H1.out.2.size _⟩
    rcases List.mem_singleton.1 hp with rfl
    exact H1.out.1.alloc _
  clear H1
  refine (PI'.out _ (K1.out.at (some ⟨g, 0, none⟩, L) (by simp))).mono ?_
  rintro e w2 ⟨⟨v5, rfl, r5⟩, b5⟩
  obtain ⟨a5, c5, rfl, rt5, hc5⟩ := ShX.out _ _ _ r5
  have K2 := K1.out.add b5 a5 X rt5
  have K2 : Hid (St w w1.heap.size r [(a5, X), (some ⟨g, 0, none⟩, L)] w2) := K2
  clear r5 b5 rt5 K1
  generalize w1.heap.size = B at K2 ⊢
  go_wp2_with fail
  refine (drawTake hc _ K2.out.2.2).mono ?_
  rintro e w3 ⟨⟨gA, cA, A, net, bits, rfl, hA, hAc, r3⟩, b3⟩
  have K3 : Hid (St w B r [(some ⟨gA, 0, none⟩, A), (a5, X), (some ⟨g, 0, none⟩, L)] w3) := K2.out.add b3 _ A r3
  clear r3 b3 K2
  have TI := fun w h => implTake (some ⟨gA, 0, none⟩) cA A net bits w (by omega) (by simp) h
  have TS := fun w h => specTake (some ⟨gA, 0, none⟩) cA A net bits w (by omega) hAc (by simp) h
  have hY64 := takeL_len (net := net) (bits := bits) hA
  have N4 := @take_good A net bits
  obtain ⟨Y, hY⟩ : ∃ Y, takeL A net bits = Y := ⟨_, rfl⟩
  obtain ⟨tk, htk⟩ : ∃ b, takeB A net bits = b := ⟨_, rfl⟩
  rw [hY] at TI TS hY64 N4
  rw [htk] at TI TS N4
  clear hY htk
  have TY := fun a c w hn h => implTake a c Y net bits w (by omega) hn h
  have OY := fun a c w h => implOk a c Y w (by omega) h
  have LY := fun a1 a2 c1 c2 w h1 h2 => likeRt a1 a2 c1 c2 Y w (by omega) h1 h2
  have ShY : Hid (∀ base w v, RRow base w v Y → ∃ a c, v = .slice a Y.length c ∧ RtsAt w a Y ∧ (a = none → c = 0)) := by
    show ∀ base w v, _ → _
    intro base w v h
    obtain ⟨a, c, rfl⟩ := h.shape
    exact ⟨a, c, rfl, h.at, h.none⟩
  obtain ⟨al, hal⟩ : ∃ n, A.length = n := ⟨_, rfl⟩
  obtain ⟨yl, hyl⟩ : ∃ n, Y.length = n := ⟨_, rfl⟩
  simp only [hal] at TI TS hA hAc N4 ⊢
  simp only [hyl] at TY OY LY ShY hY64 N4
  have TI' : Hid _ := TI
  have TS' : Hid _ := TS
  have TY' : Hid _ := TY
  have OY' : Hid _ := OY
  have LY' : Hid _ := LY
  have N4' : Hid _ := N4
  clear TI TS TY OY LY N4 hal hyl
  go_wp2_with fail
  refine (TI'.out _ (K3.out.at (some ⟨gA, 0, none⟩, A) (by simp))).mono ?_
  rintro e w4 ⟨⟨v4, rfl, r4⟩, b4⟩
  obtain ⟨aY, cY, rfl, rtY, hnY⟩ := ShY.out _ _ _ r4
  have K4 : Hid (St w B r [(aY, Y), (some ⟨gA, 0, none⟩, A), (a5, X), (some ⟨g, 0, none⟩, L)] w4) := K3.out.add b4 _ Y rtY
  clear r4 b4 rtY K3
  have HnY : Hid (aY = none → cY = 0) := hnY
  clear hnY
  have q0 : w4.cell? ⟨B, 0, none⟩ = some (.int .i64 r.net) := K4.out.2.1.cell 0 rfl
  have q1 : w4.cell? ⟨B, 1, none⟩ = some (.int .i64 r.bits) := K4.out.2.1.cell 1 rfl
  have q2 : w4.cell? ⟨B, 2, none⟩ = some (.int .i64 r.hop) := K4.out.2.1.cell 2 rfl
  go_wp2_with fail
  refine (PS'.out _ (K4.out.at (some ⟨g, 0, none⟩, L) (by simp))).mono ?_
  rintro e w6 ⟨⟨v6, rfl, r6⟩, b6⟩
  obtain ⟨a6, c6, rfl, rt6, hc6⟩ := ShX.out _ _ _ r6
  have K6 : Hid (St w B r [(a6, X), (aY, Y), (some ⟨gA, 0, none⟩, A), (a5, X), (some ⟨g, 0, none⟩, L)] w6) := K4.out.add b6 _ X rt6
  clear r6 b6 rt6 K4 hc6 q0 q1 q2
  go_wp2_with fail
  refine (LX'.out _ _ _ _ _ (K6.out.at (a5, X) (by simp)) (K6.out.at (a6, X) (by simp))).mono ?_
  rintro e w7 ⟨rfl, b7⟩
  have K7 : Hid (St w B r [(a6, X), (aY, Y), (some ⟨gA, 0, none⟩, A), (a5, X), (some ⟨g, 0, none⟩, L)] w7) := K6.out.below b7
  clear b7 K6
  go_wp2_with fail
  refine (OI'.out _ (K7.out.at (some ⟨g, 0, none⟩, L) (by simp))).mono ?_
  rintro e w8 ⟨rfl, b8⟩
  have K8 : Hid (St w B r [(a6, X), (aY, Y), (some ⟨gA, 0, none⟩, A), (a5, X), (some ⟨g, 0, none⟩, L)] w8) := K7.out.below b8
  clear b8 K7
  go_wp2_with fail
  refine (OS'.out _ (K8.out.at (some ⟨g, 0, none⟩, L) (by simp))).mono ?_
  rintro e w9 ⟨rfl, b9⟩
  have K9 : Hid (St w B r [(a6, X), (aY, Y), (some ⟨gA, 0, none⟩, A), (a5, X), (some ⟨g, 0, none⟩, L)] w9) := K8.out.below b9
  clear b9 K8
  go_wp2_with fail
  refine (TS'.out _ (K9.out.at (some ⟨gA, 0, none⟩, A) (by simp))).mono ?_
  rintro e wA ⟨⟨vA, rfl, rA⟩, bA⟩
  obtain ⟨a7, c7, rfl, rt7, -⟩ := ShY.out _ _ _ rA
  have KA : Hid (St w B r [(a7, Y), (a6, X), (aY, Y), (some ⟨gA, 0, none⟩, A), (a5, X), (some ⟨g, 0, none⟩, L)] wA) := K9.out.add bA _ Y rt7
  clear rA bA rt7 K9
  go_wp2_with fail
  refine (LY'.out _ _ _ _ _ (KA.out.at (aY, Y) (by simp)) (KA.out.at (a7, Y) (by simp))).mono ?_
  rintro e wB ⟨rfl, bB⟩
  have KB : Hid (St w B r [(aY, Y), (a5, X), (some ⟨g, 0, none⟩, L)] wB) := by
    have q := KA.out.below bB
    exact ⟨fun p hp => q.1 p (by simp at hp ⊢; rcases hp with h | h | h <;> simp [h]), q.2⟩
  clear bB KA
  cases tk
  · go_wp2_with fail
    have KE : Hid (St w B r [(a5, X), (some ⟨g, 0, none⟩, L)] wB) := ⟨fun p hp => KB.out.1 p (by simp at hp ⊢; rcases hp with h | h <;> simp [h]), KB.out.2⟩
    clear KB
    go_wp2_with fail
    refine (OS'.out _ (KE.out.at (some ⟨g, 0, none⟩, L) (by simp))).mono ?_
    rintro e wF ⟨rfl, bF⟩
    have KF : Hid (St w B r [(a5, X), (some ⟨g, 0, none⟩, L)] wF) := KE.out.below bF
    clear bF KE
    cases ok
    · have q := N1'.out rfl
      have e1 : is = false := q.1
      have e2 : xl = 0 := by rw [← Hxl.out, q.2]; rfl
      clear q
      subst e1
      subst e2
      go_wp2
      go_ret
      exact ⟨rfl, KF.out.2.2⟩
    cases is
    · have q := N2'.out rfl rfl
      have e2 : xl = n := by rw [← Hxl.out, ← Hn.out, q]
      have K5 : Hid (RtsAt wF a5 L) := by have t := KF.out.at (a5, X) (by simp); rw [q] at t; exact t
      clear q
      subst e2
      go_wp2_with fail
      refine (LL'.out _ _ _ _ _ K5.out (KF.out.at (some ⟨g, 0, none⟩, L) (by simp))).mono ?_
      rintro e wG ⟨rfl, bG⟩
      have KG : Hid (Below w.heap.size w wG) := (KF.out.below bG).2.2
      clear bG KF K5
      go_wp2
      go_ret
      exact ⟨rfl, KG.out⟩
    have G := N3'.out rfl
    have G1 : Hid (rtsOk X = true) := G.1
    have G2 : (xl : Int) - n ≤ 1 := by have := G.2.1; omega
    have G3 : Hid (∃ i, i < xl ∧ rtAt X i = r) := by
      obtain ⟨i, hi, e⟩ := List.getElem_of_mem G.2.2.2.1
      exact ⟨i, by rw [← Hxl.out]; exact hi, by rw [rtAt_lt hi]; exact e⟩
    have G4 : Hid (∀ x, r.fits x = false → hopV X x = hopV L x) := G.2.2.2.2
    clear G N3' N1' N2' N4'
    go_wp2_with fail
    go_loopw [18, 19] (fun f i wr => ∃ (k : Nat) (b : Bool), k ≤ xl ∧ f = .bool b ∧ i = .int .i64 k ∧ Hid ((b = true ↔ ∃ j, j < k ∧ rtAt X j = r) ∧ St w B r [(a5, X), (some ⟨g, 0, none⟩, L)] wr)) (fun _ i _ => xl - (intOf i).toNat)
    case atStart => exact ⟨0, false, Nat.zero_le _, rfl, rfl, ⟨⟨(fun h => by cases h), (fun ⟨j, hj, _⟩ => by omega)⟩, KF.out⟩⟩
    case round =>
      clear KF
      obtain ⟨k, b, hk, rfl, rfl, M⟩ := hrel
      by_cases hkx : k < xl
      · have hki : (k : Int) < (xl : Int) := by omega
        have Ra := M.out.2.at (a5, X) (by simp)
        simp only [] at Ra
        obtain ⟨b5, o5, ha5, -⟩ := Ra k (by rw [Hxl.out]; exact hkx)
        have f0 := fun p : BelW wr.heap.size wr => (cells_at (by rw [ha5] at Ra; exact Ra.below p.h) (k := k) (by rw [Hxl.out]; exact hkx)).1
        have f1 := fun p : BelW wr.heap.size wr => (cells_at (by rw [ha5] at Ra; exact Ra.below p.h) (k := k) (by rw [Hxl.out]; exact hkx)).2.1
        have f2 := fun p : BelW wr.heap.size wr => (cells_at (by rw [ha5] at Ra; exact Ra.below p.h) (k := k) (by rw [Hxl.out]; exact hkx)).2.2
        have q0 := fun p : BelW wr.heap.size wr => (M.out.2.2.1.below M.out.2.2.1.under p.h).cell 0 rfl
        have q1 := fun p : BelW wr.heap.size wr => (M.out.2.2.1.below M.out.2.2.1.under p.h).cell 1 rfl
        have q2 := fun p : BelW wr.heap.size wr => (M.out.2.2.1.below M.out.2.2.1.under p.h).cell 2 rfl
        haveI : Nonempty (BelW wr.heap.size wr) := ⟨⟨wr, Below.refl _ _⟩⟩
        clear Ra
        have Ha5 : Hid _ := ha5
        clear ha5
        have Hstep : Hid (∀ b' : Bool, (b' = true ↔ (b = true ∨ rtAt X k = r)) → (b' = true ↔ ∃ j, j < k + 1 ∧ rtAt X j = r)) := by
          show ∀ b' : Bool, _ → _
          intro b' hb'
          rw [hb', M.out.1]
          constructor
          · rintro (⟨j, hj, e⟩ | e)
            · exact ⟨j, by omega, e⟩
            · exact ⟨k, by omega, e⟩
          · rintro ⟨j, hj, e⟩
            by_cases h : j = k
            · subst h; exact .inr e
            · exact .inl ⟨j, by omega, e⟩
        generalize rtAt X k = z at f0 f1 f2 Hstep
        cases b
        · have e5 : a5 = some ⟨b5, o5, none⟩ := Ha5.out
          clear Ha5
          subst e5
          by_cases e1 : z.net = r.net
          · rw [e1] at f0
            by_cases e2 : z.bits = r.bits
            · rw [e2] at f1
              by_cases e3 : z.hop = r.hop
              · rw [e3] at f2
                have HE : Hid (z = r) := by
                  show z = r
                  obtain ⟨z1, z2, z3⟩ := z
                  obtain ⟨r1, r2, r3⟩ := r
                  simp only [] at e1 e2 e3
                  rw [e1, e2, e3]
                clear e1 e2 e3
                go_wp2
                refine region_below wr.heap.size (by kernel_rfl) (by kernel_rfl) ?_
                repeat (go_big_quiet_step (fail))
                refine wpQuiet_nil ?_
                intro wq hx
                have hq := BelW.out hx
                have K : Hid (St w B r [(some ⟨b5, o5, none⟩, X), (some ⟨g, 0, none⟩, L)] wq) := M.out.2.below hq
                clear hx hq f0 f1 f2 q0 q1 q2 M
                go_wp2
                go_roundw
                case rel => exact ⟨k + 1, true, by omega, rfl, by go_num, ⟨Hstep.out true (by simp; exact HE.out), K.out⟩⟩
                case measure => simp [intOf]; omega
              · have HE : Hid (¬ z = r) := fun e => e3 (by rw [e])
                have e4 : (z.hop == r.hop) = false := by simp [e3]
                clear e1 e2
                go_wp2
                refine region_below wr.heap.size (by kernel_rfl) (by kernel_rfl) ?_
                repeat (go_big_quiet_step (fail))
                refine wpQuiet_nil ?_
                intro wq hx
                have hq := BelW.out hx
                have K : Hid (St w B r [(some ⟨b5, o5, none⟩, X), (some ⟨g, 0, none⟩, L)] wq) := M.out.2.below hq
                clear hx hq f0 f1 f2 q0 q1 q2 M
                go_wp2
                go_roundw
                case rel => exact ⟨k + 1, false, by omega, rfl, by go_num, ⟨Hstep.out false (by simp; exact HE.out), K.out⟩⟩
                case measure => simp [intOf]; omega
            · have HE : Hid (¬ z = r) := fun e => e2 (by rw [e])
              have e4 : (z.bits == r.bits) = false := by simp [e2]
              clear e1
              go_wp2
              refine region_below wr.heap.size (by kernel_rfl) (by kernel_rfl) ?_
              repeat (go_big_quiet_step (fail))
              refine wpQuiet_nil ?_
              intro wq hx
              have hq := BelW.out hx
              have K : Hid (St w B r [(some ⟨b5, o5, none⟩, X), (some ⟨g, 0, none⟩, L)] wq) := M.out.2.below hq
              clear hx hq f0 f1 f2 q0 q1 q2 M
              go_wp2
              go_roundw
              case rel => exact ⟨k + 1, false, by omega, rfl, by go_num, ⟨Hstep.out false (by simp; exact HE.out), K.out⟩⟩
              case measure => simp [intOf]; omega
          · have HE : Hid (¬ z = r) := fun e => e1 (by rw [e])
            have e4 : (z.net == r.net) = false := by simp [e1]
            go_wp2
            refine region_below wr.heap.size (by kernel_rfl) (by kernel_rfl) ?_
            repeat (go_big_quiet_step (fail))
            refine wpQuiet_nil ?_
            intro wq hx
            have hq := BelW.out hx
            have K : Hid (St w B r [(some ⟨b5, o5, none⟩, X), (some ⟨g, 0, none⟩, L)] wq) := M.out.2.below hq
            clear hx hq f0 f1 f2 q0 q1 q2 M
            go_wp2
            go_roundw
            case rel => exact ⟨k + 1, false, by omega, rfl, by go_num, ⟨Hstep.out false (by simp; exact HE.out), K.out⟩⟩
            case measure => simp [intOf]; omega
        · go_wp2
          refine region_below wr.heap.size (by kernel_rfl) (by kernel_rfl) ?_
          repeat (go_big_quiet_step (fail))
          refine wpQuiet_nil ?_
          intro wq hx
          have hq := BelW.out hx
          have K : Hid (St w B r [(a5, X), (some ⟨g, 0, none⟩, L)] wq) := M.out.2.below hq
          clear hx hq f0 f1 f2 q0 q1 q2 M
          go_wp2
          go_roundw
          case rel => exact ⟨k + 1, true, by omega, rfl, by go_num, ⟨Hstep.out true (by simp), K.out⟩⟩
          case measure => simp [intOf]; omega
      · obtain rfl : k = xl := by omega
        have e1 : b = true := M.out.1.2 G3.out
        subst e1
        have KG : Hid (St w B r [(a5, X), (some ⟨g, 0, none⟩, L)] wr) := M.out.2
        clear M G3
        go_wp2_with fail
        go_loopw [20, 21] (fun i s wr => ∃ k : Nat, k ≤ 8 ∧ i = .int .i64 k ∧ Hid (St w B r [(a5, X), (some ⟨g, 0, none⟩, L)] wr)) (fun i _ _ => 8 - (intOf i).toNat)
        case atStart => exact ⟨0, by omega, rfl, KG⟩
        case round =>
          clear KG
          obtain ⟨k2, hk2, rfl, M2⟩ := hrel
          by_cases h8 : k2 < 8
          · have h8i : (k2 : Int) < 8 := by omega
            go_wp2_with fail
            refine (lawAddr hc _ _ M2.out.2.2).mono ?_
            rintro e wy ⟨⟨x, rfl⟩, hwy⟩
            have hwy := hwy.symm
            subst hwy
            have q0 : wr.cell? ⟨B, 0, none⟩ = some (.int .i64 r.net) := M2.out.2.1.cell 0 rfl
            have q1 : wr.cell? ⟨B, 1, none⟩ = some (.int .i64 r.bits) := M2.out.2.1.cell 1 rfl
            have q2 : wr.cell? ⟨B, 2, none⟩ = some (.int .i64 r.hop) := M2.out.2.1.cell 2 rfl
            have G5 : Hid (r.fits x = false → hopV X x = hopV L x) := G4.out x
            have FX := FR'.out x
            have HX2 := HX'.out a5 c5 x
            have HL2 := HL'.out x
            generalize r.fits x = fx at FX G5
            generalize hopV X x = hx at HX2 G5
            generalize hopV L x = hl at HL2 G5
            have HX3 : Hid _ := HX2
            have HL3 : Hid _ := HL2
            clear HX2 HL2
            go_wp2_with fail
            refine (FX _).mono ?_
            rintro e w10 ⟨rfl, b10⟩
            have M3 : Hid (St w B r [(a5, X), (some ⟨g, 0, none⟩, L)] w10) := M2.out.below b10
            clear b10 M2 q0 q1 q2 FX
            cases fx
            · obtain rfl : hx = hl := G5.out rfl
              go_wp2_with fail
              refine (HX3.out _ hc5 (M3.out.at (a5, X) (by simp))).mono ?_
              rintro e w11 ⟨rfl, b11⟩
              have M4 : Hid (St w B r [(a5, X), (some ⟨g, 0, none⟩, L)] w11) := M3.out.below b11
              clear b11 M3
              go_wp2_with fail
              refine (HL3.out _ (M4.out.at (some ⟨g, 0, none⟩, L) (by simp))).mono ?_
              rintro e w12 ⟨rfl, b12⟩
              have M5 : Hid (St w B r [(a5, X), (some ⟨g, 0, none⟩, L)] w12) := M4.out.below b12
              clear b12 M4
              go_wp2
              go_roundw
              case rel => exact ⟨k2 + 1, by omega, by go_num, M5⟩
              case measure => simp [intOf]; omega
            · go_wp2
              go_roundw
              case rel => exact ⟨k2 + 1, by omega, by go_num, M3⟩
              case measure => simp [intOf]; omega
          · obtain rfl : k2 = 8 := by omega
            have OX2 := fun a c w h => OX'.out a c w h
            rw [G1.out] at OX2
            go_wp2_with fail
            refine (OX2 _ _ _ (M2.out.at (a5, X) (by simp))).mono ?_
            rintro e wz ⟨rfl, bz⟩
            have M3 : Hid (Below w.heap.size w wz) := (M2.out.below bz).2.2
            clear bz M2
            go_wp2
            go_ret
            exact ⟨rfl, M3.out⟩
  · obtain ⟨y1, y2, y3⟩ := N4'.out rfl
    have Y1 : Hid (rtsOk Y = true) := y1
    have Y3 : Hid (takeB Y net bits = false) := y3
    obtain rfl : al = yl + 1 := y2.symm
    clear y1 y2 y3
    have TY2 := fun a c w hn h => TY'.out a c w hn h
    have OY2 := fun a c w h => OY'.out a c w h
    rw [Y3.out] at TY2
    rw [Y1.out] at OY2
    go_wp2_with fail
    refine (TY2 aY cY _ HnY.out (KB.out.at (aY, Y) (by simp))).mono ?_
    rintro e wC ⟨⟨vC, rfl, rC⟩, bC⟩
    have KC : Hid (St w B r [(aY, Y), (a5, X), (some ⟨g, 0, none⟩, L)] wC) := KB.out.below bC
    clear rC bC KB
    go_wp2_with fail
    refine (OY2 _ _ _ (KC.out.at (aY, Y) (by simp))).mono ?_
    rintro e wD ⟨rfl, bD⟩
    have KE : Hid (St w B r [(a5, X), (some ⟨g, 0, none⟩, L)] wD) := by
      have q := KC.out.below bD
      exact ⟨fun p hp => q.1 p (by simp at hp ⊢; rcases hp with h | h <;> simp [h]), q.2⟩
    clear bD KC TY2 OY2 Y1 Y3
    go_wp2_with fail
    refine (OS'.out _ (KE.out.at (some ⟨g, 0, none⟩, L) (by simp))).mono ?_
    rintro e wF ⟨rfl, bF⟩
    have KF : Hid (St w B r [(a5, X), (some ⟨g, 0, none⟩, L)] wF) := KE.out.below bF
    clear bF KE
    cases ok
    · have q := N1'.out rfl
      have e1 : is = false := q.1
      have e2 : xl = 0 := by rw [← Hxl.out, q.2]; rfl
      clear q
      subst e1
      subst e2
      go_wp2
      go_ret
      exact ⟨rfl, KF.out.2.2⟩
    cases is
    · have q := N2'.out rfl rfl
      have e2 : xl = n := by rw [← Hxl.out, ← Hn.out, q]
      have K5 : Hid (RtsAt wF a5 L) := by have t := KF.out.at (a5, X) (by simp); rw [q] at t; exact t
      clear q
      subst e2
      go_wp2_with fail
      refine (LL'.out _ _ _ _ _ K5.out (KF.out.at (some ⟨g, 0, none⟩, L) (by simp))).mono ?_
      rintro e wG ⟨rfl, bG⟩
      have KG : Hid (Below w.heap.size w wG) := (KF.out.below bG).2.2
      clear bG KF K5
      go_wp2
      go_ret
      exact ⟨rfl, KG.out⟩
    have G := N3'.out rfl
    have G1 : Hid (rtsOk X = true) := G.1
    have G2 : (xl : Int) - n ≤ 1 := by have := G.2.1; omega
    have G3 : Hid (∃ i, i < xl ∧ rtAt X i = r) := by
      obtain ⟨i, hi, e⟩ := List.getElem_of_mem G.2.2.2.1
      exact ⟨i, by rw [← Hxl.out]; exact hi, by rw [rtAt_lt hi]; exact e⟩
    have G4 : Hid (∀ x, r.fits x = false → hopV X x = hopV L x) := G.2.2.2.2
    clear G N3' N1' N2' N4'
    go_wp2_with fail
    go_loopw [18, 19] (fun f i wr => ∃ (k : Nat) (b : Bool), k ≤ xl ∧ f = .bool b ∧ i = .int .i64 k ∧ Hid ((b = true ↔ ∃ j, j < k ∧ rtAt X j = r) ∧ St w B r [(a5, X), (some ⟨g, 0, none⟩, L)] wr)) (fun _ i _ => xl - (intOf i).toNat)
    case atStart => exact ⟨0, false, Nat.zero_le _, rfl, rfl, ⟨⟨(fun h => by cases h), (fun ⟨j, hj, _⟩ => by omega)⟩, KF.out⟩⟩
    case round =>
      clear KF
      obtain ⟨k, b, hk, rfl, rfl, M⟩ := hrel
      by_cases hkx : k < xl
      · have hki : (k : Int) < (xl : Int) := by omega
        have Ra := M.out.2.at (a5, X) (by simp)
        simp only [] at Ra
        obtain ⟨b5, o5, ha5, -⟩ := Ra k (by rw [Hxl.out]; exact hkx)
        have f0 := fun p : BelW wr.heap.size wr => (cells_at (by rw [ha5] at Ra; exact Ra.below p.h) (k := k) (by rw [Hxl.out]; exact hkx)).1
        have f1 := fun p : BelW wr.heap.size wr => (cells_at (by rw [ha5] at Ra; exact Ra.below p.h) (k := k) (by rw [Hxl.out]; exact hkx)).2.1
        have f2 := fun p : BelW wr.heap.size wr => (cells_at (by rw [ha5] at Ra; exact Ra.below p.h) (k := k) (by rw [Hxl.out]; exact hkx)).2.2
        have q0 := fun p : BelW wr.heap.size wr => (M.out.2.2.1.below M.out.2.2.1.under p.h).cell 0 rfl
        have q1 := fun p : BelW wr.heap.size wr => (M.out.2.2.1.below M.out.2.2.1.under p.h).cell 1 rfl
        have q2 := fun p : BelW wr.heap.size wr => (M.out.2.2.1.below M.out.2.2.1.under p.h).cell 2 rfl
        haveI : Nonempty (BelW wr.heap.size wr) := ⟨⟨wr, Below.refl _ _⟩⟩
        clear Ra
        have Ha5 : Hid _ := ha5
        clear ha5
        have Hstep : Hid (∀ b' : Bool, (b' = true ↔ (b = true ∨ rtAt X k = r)) → (b' = true ↔ ∃ j, j < k + 1 ∧ rtAt X j = r)) := by
          show ∀ b' : Bool, _ → _
          intro b' hb'
          rw [hb', M.out.1]
          constructor
          · rintro (⟨j, hj, e⟩ | e)
            · exact ⟨j, by omega, e⟩
            · exact ⟨k, by omega, e⟩
          · rintro ⟨j, hj, e⟩
            by_cases h : j = k
            · subst h; exact .inr e
            · exact .inl ⟨j, by omega, e⟩
        generalize rtAt X k = z at f0 f1 f2 Hstep
        cases b
        · have e5 : a5 = some ⟨b5, o5, none⟩ := Ha5.out
          clear Ha5
          subst e5
          by_cases e1 : z.net = r.net
          · rw [e1] at f0
            by_cases e2 : z.bits = r.bits
            · rw [e2] at f1
              by_cases e3 : z.hop = r.hop
              · rw [e3] at f2
                have HE : Hid (z = r) := by
                  show z = r
                  obtain ⟨z1, z2, z3⟩ := z
                  obtain ⟨r1, r2, r3⟩ := r
                  simp only [] at e1 e2 e3
                  rw [e1, e2, e3]
                clear e1 e2 e3
                go_wp2
                refine region_below wr.heap.size (by kernel_rfl) (by kernel_rfl) ?_
                repeat (go_big_quiet_step (fail))
                refine wpQuiet_nil ?_
                intro wq hx
                have hq := BelW.out hx
                have K : Hid (St w B r [(some ⟨b5, o5, none⟩, X), (some ⟨g, 0, none⟩, L)] wq) := M.out.2.below hq
                clear hx hq f0 f1 f2 q0 q1 q2 M
                go_wp2
                go_roundw
                case rel => exact ⟨k + 1, true, by omega, rfl, by go_num, ⟨Hstep.out true (by simp; exact HE.out), K.out⟩⟩
                case measure => simp [intOf]; omega
              · have HE : Hid (¬ z = r) := fun e => e3 (by rw [e])
                have e4 : (z.hop == r.hop) = false := by simp [e3]
                clear e1 e2
                go_wp2
                refine region_below wr.heap.size (by kernel_rfl) (by kernel_rfl) ?_
                repeat (go_big_quiet_step (fail))
                refine wpQuiet_nil ?_
                intro wq hx
                have hq := BelW.out hx
                have K : Hid (St w B r [(some ⟨b5, o5, none⟩, X), (some ⟨g, 0, none⟩, L)] wq) := M.out.2.below hq
                clear hx hq f0 f1 f2 q0 q1 q2 M
                go_wp2
                go_roundw
                case rel => exact ⟨k + 1, false, by omega, rfl, by go_num, ⟨Hstep.out false (by simp; exact HE.out), K.out⟩⟩
                case measure => simp [intOf]; omega
            · have HE : Hid (¬ z = r) := fun e => e2 (by rw [e])
              have e4 : (z.bits == r.bits) = false := by simp [e2]
              clear e1
              go_wp2
              refine region_below wr.heap.size (by kernel_rfl) (by kernel_rfl) ?_
              repeat (go_big_quiet_step (fail))
              refine wpQuiet_nil ?_
              intro wq hx
              have hq := BelW.out hx
              have K : Hid (St w B r [(some ⟨b5, o5, none⟩, X), (some ⟨g, 0, none⟩, L)] wq) := M.out.2.below hq
              clear hx hq f0 f1 f2 q0 q1 q2 M
              go_wp2
              go_roundw
              case rel => exact ⟨k + 1, false, by omega, rfl, by go_num, ⟨Hstep.out false (by simp; exact HE.out), K.out⟩⟩
              case measure => simp [intOf]; omega
          · have HE : Hid (¬ z = r) := fun e => e1 (by rw [e])
            have e4 : (z.net == r.net) = false := by simp [e1]
            go_wp2
            refine region_below wr.heap.size (by kernel_rfl) (by kernel_rfl) ?_
            repeat (go_big_quiet_step (fail))
            refine wpQuiet_nil ?_
            intro wq hx
            have hq := BelW.out hx
            have K : Hid (St w B r [(some ⟨b5, o5, none⟩, X), (some ⟨g, 0, none⟩, L)] wq) := M.out.2.below hq
            clear hx hq f0 f1 f2 q0 q1 q2 M
            go_wp2
            go_roundw
            case rel => exact ⟨k + 1, false, by omega, rfl, by go_num, ⟨Hstep.out false (by simp; exact HE.out), K.out⟩⟩
            case measure => simp [intOf]; omega
        · go_wp2
          refine region_below wr.heap.size (by kernel_rfl) (by kernel_rfl) ?_
          repeat (go_big_quiet_step (fail))
          refine wpQuiet_nil ?_
          intro wq hx
          have hq := BelW.out hx
          have K : Hid (St w B r [(a5, X), (some ⟨g, 0, none⟩, L)] wq) := M.out.2.below hq
          clear hx hq f0 f1 f2 q0 q1 q2 M
          go_wp2
          go_roundw
          case rel => exact ⟨k + 1, true, by omega, rfl, by go_num, ⟨Hstep.out true (by simp), K.out⟩⟩
          case measure => simp [intOf]; omega
      · obtain rfl : k = xl := by omega
        have e1 : b = true := M.out.1.2 G3.out
        subst e1
        have KG : Hid (St w B r [(a5, X), (some ⟨g, 0, none⟩, L)] wr) := M.out.2
        clear M G3
        go_wp2_with fail
        go_loopw [20, 21] (fun i s wr => ∃ k : Nat, k ≤ 8 ∧ i = .int .i64 k ∧ Hid (St w B r [(a5, X), (some ⟨g, 0, none⟩, L)] wr)) (fun i _ _ => 8 - (intOf i).toNat)
        case atStart => exact ⟨0, by omega, rfl, KG⟩
        case round =>
          clear KG
          obtain ⟨k2, hk2, rfl, M2⟩ := hrel
          by_cases h8 : k2 < 8
          · have h8i : (k2 : Int) < 8 := by omega
            go_wp2_with fail
            refine (lawAddr hc _ _ M2.out.2.2).mono ?_
            rintro e wy ⟨⟨x, rfl⟩, hwy⟩
            have hwy := hwy.symm
            subst hwy
            have q0 : wr.cell? ⟨B, 0, none⟩ = some (.int .i64 r.net) := M2.out.2.1.cell 0 rfl
            have q1 : wr.cell? ⟨B, 1, none⟩ = some (.int .i64 r.bits) := M2.out.2.1.cell 1 rfl
            have q2 : wr.cell? ⟨B, 2, none⟩ = some (.int .i64 r.hop) := M2.out.2.1.cell 2 rfl
            have G5 : Hid (r.fits x = false → hopV X x = hopV L x) := G4.out x
            have FX := FR'.out x
            have HX2 := HX'.out a5 c5 x
            have HL2 := HL'.out x
            generalize r.fits x = fx at FX G5
            generalize hopV X x = hx at HX2 G5
            generalize hopV L x = hl at HL2 G5
            have HX3 : Hid _ := HX2
            have HL3 : Hid _ := HL2
            clear HX2 HL2
            go_wp2_with fail
            refine (FX _).mono ?_
            rintro e w10 ⟨rfl, b10⟩
            have M3 : Hid (St w B r [(a5, X), (some ⟨g, 0, none⟩, L)] w10) := M2.out.below b10
            clear b10 M2 q0 q1 q2 FX
            cases fx
            · obtain rfl : hx = hl := G5.out rfl
              go_wp2_with fail
              refine (HX3.out _ hc5 (M3.out.at (a5, X) (by simp))).mono ?_
              rintro e w11 ⟨rfl, b11⟩
              have M4 : Hid (St w B r [(a5, X), (some ⟨g, 0, none⟩, L)] w11) := M3.out.below b11
              clear b11 M3
              go_wp2_with fail
              refine (HL3.out _ (M4.out.at (some ⟨g, 0, none⟩, L) (by simp))).mono ?_
              rintro e w12 ⟨rfl, b12⟩
              have M5 : Hid (St w B r [(a5, X), (some ⟨g, 0, none⟩, L)] w12) := M4.out.below b12
              clear b12 M4
              go_wp2
              go_roundw
              case rel => exact ⟨k2 + 1, by omega, by go_num, M5⟩
              case measure => simp [intOf]; omega
            · go_wp2
              go_roundw
              case rel => exact ⟨k2 + 1, by omega, by go_num, M3⟩
              case measure => simp [intOf]; omega
          · obtain rfl : k2 = 8 := by omega
            have OX2 := fun a c w h => OX'.out a c w h
            rw [G1.out] at OX2
            go_wp2_with fail
            refine (OX2 _ _ _ (M2.out.at (a5, X) (by simp))).mono ?_
            rintro e wz ⟨rfl, bz⟩
            have M3 : Hid (Below w.heap.size w wz) := (M2.out.below bz).2.2
            clear bz M2
            go_wp2
            go_ret
            exact ⟨rfl, M3.out⟩
end Go.Proofs.Ytbokeaaicbffdaa
