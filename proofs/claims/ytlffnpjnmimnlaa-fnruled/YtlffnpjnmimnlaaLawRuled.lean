/-
  The walk of the law of the rule that goes ahead. By the verifier, by program.
-/
import Derived.Test.YtlffnpjnmimnlaaRuDrawC
import Derived.Test.YtlffnpjnmimnlaaRuClsI
import Derived.Test.YtlffnpjnmimnlaaRuShap
import Derived.Test.YtlffnpjnmimnlaaMLk
namespace Go.Proofs.Ytlffnpjnmimnlaa
open Go.RowKit

/-- What is known of each operation of the great test. -/
def rlPr (xl : Nat) (X : List Int) (vals : List Value) : Nat → World → Value → Prop := fun i x v =>
  if i = 16 ∨ i = 18 ∨ i = 31 then ∃ a c, v = .slice a xl c ∧ IntsAt x a X else v = vals[i]?.getD undef
theorem rlPr_keep {xl : Nat} {X : List Int} {vals : List Value} {i : Nat} {x y : World} {v : Value} (h : rlPr xl X vals i x v) (b : Below x.heap.size x y) : rlPr xl X vals i y v := by
  unfold rlPr at *
  split
  · rename_i h1
    rw [if_pos h1] at h
    obtain ⟨a, c, e, hi⟩ := h
    exact ⟨a, c, e, hi.below b⟩
  · rename_i h1
    rw [if_neg h1] at h
    exact h
/-- What lies. -/
structure RlS (w : World) (g : Nat) (L : List Ru) (B4 : Nat) (fc1 : Array Value) (a1 : Option Addr) (t1 : List Int) (W : World) : Prop where
  bel : Below w.heap.size w W
  rus : RusAt W (some ⟨g, 0, none⟩) L
  fb : Boxed W B4 fc1 27
  ints : IntsAt W a1 t1
theorem RlS.below {w : World} {g : Nat} {L : List Ru} {B4 : Nat} {fc1 : Array Value} {a1 : Option Addr} {t1 : List Int} {W W' : World} (h : RlS w g L B4 fc1 a1 t1 W) (q : Below W.heap.size W W') : RlS w g L B4 fc1 a1 t1 W' :=
  ⟨h.bel.trans (q.mono h.bel.size), h.rus.below q, h.fb.below h.fb.under q, h.ints.below q⟩
theorem shapesV_rise (l : List Ru) : (shapesV l).Pairwise (· < ·) := by
  unfold shapesV
  split
  · exact shapesK_rise l _ (Nat.le_refl _)
  · exact List.Pairwise.nil
theorem rus_step {l : List Ru} (h : rusOk l = true) {k : Nat} (hk : k + 1 < l.length) : (ruAt l k).id < (ruAt l (k + 1)).id := by
  unfold rusOk at h
  rw [Bool.and_eq_true] at h
  have := goodRs_all h.2 (k + 1) hk
  unfold goodR at this
  simp only [Bool.and_eq_true, Bool.or_eq_true, decide_eq_true_eq, Nat.add_sub_cancel] at this
  rcases this.2 with e | e
  · omega
  · exact e
theorem rus_rise {l : List Ru} (h : rusOk l = true) : ∀ {i j : Nat}, i < j → j < l.length → (ruAt l i).id < (ruAt l j).id := by
  intro i j hij
  induction j with
  | zero => omega
  | succ j ih =>
    intro hj
    have h1 := rus_step h hj
    by_cases e : i = j
    · subst e; exact h1
    · have := ih (by omega) (by omega)
      omega
theorem ahead_prio {l : List Ru} (h : rusOk l = true) {i j : Nat} (hij : i < j) (hj : j < l.length) : (ruAt l j).ahead (ruAt l i) = decide ((ruAt l i).prio < (ruAt l j).prio) := by
  have := rus_rise h hij hj
  unfold Ru.ahead
  rw [decide_eq_decide]
  omega
theorem class_pos {l : List Ru} (h : rusOk l = true) (f : Fr) (hb : bestK l f l.length < l.length) : 0 ≤ classL l f := by
  unfold classL
  split
  · exact Int.le_refl _
  · have hk : (bestK l f l.length).toNat < l.length := by omega
    have := rus_ok h hk
    unfold Ru.ok at this
    simp only [Bool.and_eq_true, inB_true] at this
    exact this.2.2.2.2.2.2.2.1
theorem best_bound (l : List Ru) (f : Fr) : ∀ k : Nat, -1 ≤ bestK l f k ∧ bestK l f k < k := by
  intro k
  induction k with
  | zero => exact ⟨by show (-1 : Int) ≤ -1; omega, by show (-1 : Int) < 0; omega⟩
  | succ k ih =>
    rw [bestK_succ]
    unfold bestStep
    split <;> omega

set_option maxHeartbeats 12800000 in
set_option maxRecDepth 100000 in
theorem fnRuled_walk (a : Option Addr) (len cap : Nat) (w : World)
    (hcode : ∀ k, k < len → ∃ b off z, a = some ⟨b, off, none⟩ ∧ b < w.heap.size ∧ w.cell? ⟨b, off + k, none⟩ = some (.int .u8 z) ∧ 0 ≤ z ∧ z ≤ 255) :
    Calls Try.prog 3 #[.slice a len cap] w fun e w' => e = .returned (.bool true) ∧ Below w.heap.size w w' := by
  by_cases hbig : 4096 < len
  · clear hcode
    go_enter Try.func3, Try.ntmps3
    go_wp2
    go_ret
    exact ⟨rfl, Below.refl _ _⟩
  have hc : Hid (Code w a len) := ⟨by omega, hcode⟩
  have hb : Hid (Below w.heap.size w w) := Below.refl _ _
  clear hcode
  go_enter Try.func3, Try.ntmps3
  go_wp2_with (go_at_call 5; go_in)
  refine (drawClassOf hc _ hb).mono ?_
  rintro e w1 ⟨⟨g, c, L, f, a1, c1, rfl, hL, hLc, rL, hT1, hB1, i1⟩, b1⟩
  have H1 : Hid (RusAt w1 (some ⟨g, 0, none⟩) L ∧ IntsAt w1 a1 f.tags ∧ Below w.heap.size w w1) := ⟨rL, i1, b1⟩
  clear rL i1 b1
  have K7 := fun w h hi => implClassOf (some ⟨g, 0, none⟩) c L f a1 c1 w (by omega) (by omega) (by simp) h hi
  have K10 := fun w h hi => specClassOf (some ⟨g, 0, none⟩) c L f a1 c1 w (by omega) (by omega) h hi
  have K16 := fun w h => implRules (some ⟨g, 0, none⟩) c L w (by omega) h
  have K17 := fun w h => specRules (some ⟨g, 0, none⟩) c L w (by omega) h
  have K19 := fun w hi => specFrameOk f a1 c1 w (by omega) hi
  have KM := fun (q : Ru) w hi => implMatches q f a1 c1 w (by omega) hi
  obtain ⟨n, hn⟩ : ∃ n, L.length = n := ⟨_, rfl⟩
  have Hn : Hid (L.length = n) := hn
  obtain ⟨e0, e1, t1, e3, e4, e5, e6, e7, e8, e9, eb⟩ := f
  obtain ⟨fr, hfr⟩ : ∃ fr : Fr, fr = ⟨e0, e1, t1, e3, e4, e5, e6, e7, e8, e9, eb⟩ := ⟨_, rfl⟩
  have Hfr : Hid (fr = ⟨e0, e1, t1, e3, e4, e5, e6, e7, e8, e9, eb⟩) := hfr
  rw [← hfr] at K7 K10 K19 KM
  obtain ⟨kv, hkv⟩ : ∃ kv, classV L fr = kv := ⟨_, rfl⟩
  obtain ⟨ro, hro⟩ : ∃ ro, rusOk L = ro := ⟨_, rfl⟩
  obtain ⟨fo, hfo⟩ : ∃ fo, fr.ok = fo := ⟨_, rfl⟩
  have HK : Hid (classV L fr = kv ∧ rusOk L = ro ∧ fr.ok = fo) := ⟨hkv, hro, hfo⟩
  rw [hkv] at K7 K10
  rw [hro] at K16 K17
  rw [hfo] at K19
  obtain ⟨n1, hn1⟩ : ∃ n1, t1.length = n1 := ⟨_, rfl⟩
  rw [hfr] at K7 K10 K19 KM
  simp only [Fr.val, hn, hn1] at K7 K10 K16 K17 K19 KM H1 hT1 hL hLc ⊢
  clear hkv hro hfo hfr hn hn1 hB1
  have K7' : Hid _ := K7
  have K10' : Hid _ := K10
  have K16' : Hid _ := K16
  have K17' : Hid _ := K17
  have K19' : Hid _ := K19
  have KM' : Hid _ := KM
  clear K7 K10 K16 K17 K19 KM
  go_wp2_with fail
  have S1 : Hid (RlS w g L w1.heap.size #[.int .i64 e0, .int .i64 e1, .slice a1 n1 c1, .int .i64 e3, .int .i64 e4, .int .i64 e5, .int .i64 e6, .int .i64 e7, .int .i64 e8, .int .i64 e9, .string eb] a1 t1 (w1.alloc (.cells #[.int .i64 e0, .int .i64 e1, .slice a1 n1 c1, .int .i64 e3, .int .i64 e4, .int .i64 e5, .int .i64 e6, .int .i64 e7, .int .i64 e8, .int .i64 e9, .string eb] 27))) := ⟨H1.out.2.2.alloc H1.out.2.2.size _, H1.out.1.alloc _, Boxed.new _ _ _, H1.out.2.1.alloc _⟩
  generalize w1.heap.size = B4 at S1 ⊢
  generalize w1.alloc (.cells #[.int .i64 e0, .int .i64 e1, .slice a1 n1 c1, .int .i64 e3, .int .i64 e4, .int .i64 e5, .int .i64 e6, .int .i64 e7, .int .i64 e8, .int .i64 e9, .string eb] 27) = w2 at S1 ⊢
  clear H1
  refine (K7'.out _ S1.out.rus S1.out.ints).mono ?_
  rintro e w3 ⟨rfl, q⟩
  have S3 : Hid (RlS w g L B4 #[.int .i64 e0, .int .i64 e1, .slice a1 n1 c1, .int .i64 e3, .int .i64 e4, .int .i64 e5, .int .i64 e6, .int .i64 e7, .int .i64 e8, .int .i64 e9, .string eb] a1 t1 w3) := S1.out.below q
  clear q S1
  go_wp2_with fail
  refine (drawMatches hc _ S3.out.bel).mono ?_
  rintro e w4 ⟨⟨r, f2, a2, c2, rfl, hT2, hB2, i2⟩, q⟩
  have S4 : Hid (RlS w g L B4 #[.int .i64 e0, .int .i64 e1, .slice a1 n1 c1, .int .i64 e3, .int .i64 e4, .int .i64 e5, .int .i64 e6, .int .i64 e7, .int .i64 e8, .int .i64 e9, .string eb] a1 t1 w4 ∧ IntsAt w4 a2 f2.tags) := ⟨S3.out.below q, i2⟩
  clear q i2 S3
  have K11 := fun w hi => implMatches r f2 a2 c2 w (by omega) hi
  have K12 := fun w hi => specMatches r f2 a2 c2 w (by omega) hi
  generalize matchV r f2 = mv at K11 K12
  obtain ⟨d0, d1, t2, d3, d4, d5, d6, d7, d8, d9, db⟩ := f2
  obtain ⟨n2, hn2⟩ : ∃ n2, t2.length = n2 := ⟨_, rfl⟩
  simp only [Fr.val, Ru.val, hn2] at K11 K12 S4 hT2 ⊢
  clear hn2 hB2
  have K11' : Hid _ := K11
  have K12' : Hid _ := K12
  clear K11 K12
  go_wp2_with fail
  have S5 : Hid (RlS w g L B4 #[.int .i64 e0, .int .i64 e1, .slice a1 n1 c1, .int .i64 e3, .int .i64 e4, .int .i64 e5, .int .i64 e6, .int .i64 e7, .int .i64 e8, .int .i64 e9, .string eb] a1 t1 ((w4.alloc (.cells #[.int .i64 r.id, .int .i64 r.prio, .int .i64 r.snet, .int .i64 r.sbits, .int .i64 r.dnet, .int .i64 r.dbits, .int .i64 r.proto, .int .i64 r.low, .int .i64 r.high, .int .i64 r.cls] 32)).alloc (.cells #[.int .i64 d0, .int .i64 d1, .slice a2 n2 c2, .int .i64 d3, .int .i64 d4, .int .i64 d5, .int .i64 d6, .int .i64 d7, .int .i64 d8, .int .i64 d9, .string db] 27)) ∧ IntsAt ((w4.alloc (.cells #[.int .i64 r.id, .int .i64 r.prio, .int .i64 r.snet, .int .i64 r.sbits, .int .i64 r.dnet, .int .i64 r.dbits, .int .i64 r.proto, .int .i64 r.low, .int .i64 r.high, .int .i64 r.cls] 32)).alloc (.cells #[.int .i64 d0, .int .i64 d1, .slice a2 n2 c2, .int .i64 d3, .int .i64 d4, .int .i64 d5, .int .i64 d6, .int .i64 d7, .int .i64 d8, .int .i64 d9, .string db] 27)) a2 t2 ∧ Boxed ((w4.alloc (.cells #[.int .i64 r.id, .int .i64 r.prio, .int .i64 r.snet, .int .i64 r.sbits, .int .i64 r.dnet, .int .i64 r.dbits, .int .i64 r.proto, .int .i64 r.low, .int .i64 r.high, .int .i64 r.cls] 32)).alloc (.cells #[.int .i64 d0, .int .i64 d1, .slice a2 n2 c2, .int .i64 d3, .int .i64 d4, .int .i64 d5, .int .i64 d6, .int .i64 d7, .int .i64 d8, .int .i64 d9, .string db] 27)) w4.heap.size #[.int .i64 r.id, .int .i64 r.prio, .int .i64 r.snet, .int .i64 r.sbits, .int .i64 r.dnet, .int .i64 r.dbits, .int .i64 r.proto, .int .i64 r.low, .int .i64 r.high, .int .i64 r.cls] 32 ∧ Boxed ((w4.alloc (.cells #[.int .i64 r.id, .int .i64 r.prio, .int .i64 r.snet, .int .i64 r.sbits, .int .i64 r.dnet, .int .i64 r.dbits, .int .i64 r.proto, .int .i64 r.low, .int .i64 r.high, .int .i64 r.cls] 32)).alloc (.cells #[.int .i64 d0, .int .i64 d1, .slice a2 n2 c2, .int .i64 d3, .int .i64 d4, .int .i64 d5, .int .i64 d6, .int .i64 d7, .int .i64 d8, .int .i64 d9, .string db] 27)) (w4.heap.size + 1) #[.int .i64 d0, .int .i64 d1, .slice a2 n2 c2, .int .i64 d3, .int .i64 d4, .int .i64 d5, .int .i64 d6, .int .i64 d7, .int .i64 d8, .int .i64 d9, .string db] 27) :=
    ⟨S4.out.1.below (((Below.refl _ w4).alloc (Nat.le_refl _) _).alloc (by simp) _), (S4.out.2.alloc _).alloc _, (Boxed.new _ _ _).more _, by have := Boxed.new (w4.alloc (.cells #[.int .i64 r.id, .int .i64 r.prio, .int .i64 r.snet, .int .i64 r.sbits, .int .i64 r.dnet, .int .i64 r.dbits, .int .i64 r.proto, .int .i64 r.low, .int .i64 r.high, .int .i64 r.cls] 32)) #[.int .i64 d0, .int .i64 d1, .slice a2 n2 c2, .int .i64 d3, .int .i64 d4, .int .i64 d5, .int .i64 d6, .int .i64 d7, .int .i64 d8, .int .i64 d9, .string db] 27; simpa using this⟩
  generalize w4.heap.size = B6 at S5 ⊢
  generalize (w4.alloc (.cells #[.int .i64 r.id, .int .i64 r.prio, .int .i64 r.snet, .int .i64 r.sbits, .int .i64 r.dnet, .int .i64 r.dbits, .int .i64 r.proto, .int .i64 r.low, .int .i64 r.high, .int .i64 r.cls] 32)).alloc (.cells #[.int .i64 d0, .int .i64 d1, .slice a2 n2 c2, .int .i64 d3, .int .i64 d4, .int .i64 d5, .int .i64 d6, .int .i64 d7, .int .i64 d8, .int .i64 d9, .string db] 27) = w5 at S5 ⊢
  clear S4
  refine (drawShapes hc _ S5.out.1.bel).mono ?_
  rintro e W ⟨⟨gs, cs, M, rfl, hM, hMc, rM⟩, q⟩
  have S6 : Hid (RlS w g L B4 #[.int .i64 e0, .int .i64 e1, .slice a1 n1 c1, .int .i64 e3, .int .i64 e4, .int .i64 e5, .int .i64 e6, .int .i64 e7, .int .i64 e8, .int .i64 e9, .string eb] a1 t1 W ∧ IntsAt W a2 t2 ∧ Boxed W B6 #[.int .i64 r.id, .int .i64 r.prio, .int .i64 r.snet, .int .i64 r.sbits, .int .i64 r.dnet, .int .i64 r.dbits, .int .i64 r.proto, .int .i64 r.low, .int .i64 r.high, .int .i64 r.cls] 32 ∧ Boxed W (B6 + 1) #[.int .i64 d0, .int .i64 d1, .slice a2 n2 c2, .int .i64 d3, .int .i64 d4, .int .i64 d5, .int .i64 d6, .int .i64 d7, .int .i64 d8, .int .i64 d9, .string db] 27 ∧ RusAt W (some ⟨gs, 0, none⟩) M) := ⟨S5.out.1.below q, S5.out.2.1.below q, S5.out.2.2.1.below S5.out.2.2.1.under q, S5.out.2.2.2.below S5.out.2.2.2.under q, rM⟩
  clear q S5 rM
  have K14 := fun w h => implShapes (some ⟨gs, 0, none⟩) cs M w (by omega) h
  have K15 := fun w h => specShapes (some ⟨gs, 0, none⟩) cs M w (by omega) h
  have hXr := shapesV_rise M
  have hXl : (shapesV M).length ≤ 6 := by have h1 := shapesK_len M M.length; unfold shapesV; split; omega; simp
  generalize shapesV M = X at K14 K15 hXr hXl
  have K13 := fun x1 x2 y1 y2 w h1 h2 => likeInts x1 x2 y1 y2 X w (by omega) h1 h2
  have K18 := fun x1 y1 w h1 => risesInts x1 y1 X w (by omega) hXr h1
  have Xsh : Hid (∀ base w v, IRow base w v X → ∃ p c, v = .slice p X.length c ∧ IntsAt w p X) := fun base w v h => by obtain ⟨p, q, rfl⟩ := h.shape; exact ⟨p, q, rfl, h.ints⟩
  obtain ⟨ns, hns⟩ : ∃ ns, M.length = ns := ⟨_, rfl⟩
  obtain ⟨xl, hxl⟩ : ∃ xl, X.length = xl := ⟨_, rfl⟩
  simp only [hns] at K14 K15 ⊢
  simp only [hxl] at K13 K18 Xsh
  clear hns hxl hXr hXl
  have K13' : Hid _ := K13
  have K14' : Hid _ := K14
  have K15' : Hid _ := K15
  have K18' : Hid _ := K18
  clear K13 K14 K15 K18
  go_wp2_with fail
  refine region_all3 (by kernel_rfl) (by kernel_rfl) (by kernel_rfl) (fun _ => 35) (fun x => Below W.heap.size W x) (fun _ x y => Below x.heap.size x y) (rlPr xl X [.int .i64 kv, .slice (some ⟨g, 0, none⟩) n c, .agg #[.int .i64 e0, .int .i64 e1, .slice a1 n1 c1, .int .i64 e3, .int .i64 e4, .int .i64 e5, .int .i64 e6, .int .i64 e7, .int .i64 e8, .int .i64 e9, .string eb], .int .i64 kv, .bool false, .bool false, .agg #[.int .i64 r.id, .int .i64 r.prio, .int .i64 r.snet, .int .i64 r.sbits, .int .i64 r.dnet, .int .i64 r.dbits, .int .i64 r.proto, .int .i64 r.low, .int .i64 r.high, .int .i64 r.cls], .agg #[.int .i64 d0, .int .i64 d1, .slice a2 n2 c2, .int .i64 d3, .int .i64 d4, .int .i64 d5, .int .i64 d6, .int .i64 d7, .int .i64 d8, .int .i64 d9, .string db], .bool mv, .agg #[.int .i64 r.id, .int .i64 r.prio, .int .i64 r.snet, .int .i64 r.sbits, .int .i64 r.dnet, .int .i64 r.dbits, .int .i64 r.proto, .int .i64 r.low, .int .i64 r.high, .int .i64 r.cls], .agg #[.int .i64 d0, .int .i64 d1, .slice a2 n2 c2, .int .i64 d3, .int .i64 d4, .int .i64 d5, .int .i64 d6, .int .i64 d7, .int .i64 d8, .int .i64 d9, .string db], .bool mv, .bool false, .bool false, .bool false, .slice (some ⟨gs, 0, none⟩) ns cs, undef, .slice (some ⟨gs, 0, none⟩) ns cs, undef, .bool true, .bool false, .bool false, .bool false, .slice (some ⟨g, 0, none⟩) n c, .bool ro, .slice (some ⟨g, 0, none⟩) n c, .bool ro, .bool false, .bool false, .bool false, .slice (some ⟨gs, 0, none⟩) ns cs, undef, .bool true, .bool false, .bool false]) ?hR ?h0 ?step ?last
  case hR =>
    intro i j x y v _ _ _ _ _ _ hp hr
    exact rlPr_keep hp hr
  case h0 => exact (Below.refl _ _).drew
  case step =>
    intro i o hi ho a x hkp hst hI hp
    have s3 : a.tmps.getD 3 undef = .slice (some ⟨g, 0, none⟩) n c := hkp.slot 3 (by kernel_rfl)
    have s4 : a.tmps.getD 4 undef = .pointer (some ⟨B4, 0, none⟩) := hkp.slot 4 (by kernel_rfl)
    have s5 : a.tmps.getD 5 undef = .int .i64 kv := hkp.slot 5 (by kernel_rfl)
    have s6 : a.tmps.getD 6 undef = .pointer (some ⟨B6, 0, none⟩) := hkp.slot 6 (by kernel_rfl)
    have s7 : a.tmps.getD 7 undef = .pointer (some ⟨B6 + 1, 0, none⟩) := hkp.slot 7 (by kernel_rfl)
    have s8 : a.tmps.getD 8 undef = .slice (some ⟨gs, 0, none⟩) ns cs := hkp.slot 8 (by kernel_rfl)
    have SX := S6.out.1.below hI
    have b6 := S6.out.2.2.1.below S6.out.2.2.1.under hI
    have b7 := S6.out.2.2.2.1.below S6.out.2.2.2.1.under hI
    have i2 := S6.out.2.1.below hI
    have rM := S6.out.2.2.2.2.below hI
    have hcases : i = 0 ∨ i = 1 ∨ i = 2 ∨ i = 3 ∨ i = 4 ∨ i = 5 ∨ i = 6 ∨ i = 7 ∨ i = 8 ∨ i = 9 ∨ i = 10 ∨ i = 11 ∨ i = 12 ∨ i = 13 ∨ i = 14 ∨ i = 15 ∨ i = 16 ∨ i = 17 ∨ i = 18 ∨ i = 19 ∨ i = 20 ∨ i = 21 ∨ i = 22 ∨ i = 23 ∨ i = 24 ∨ i = 25 ∨ i = 26 ∨ i = 27 ∨ i = 28 ∨ i = 29 ∨ i = 30 ∨ i = 31 ∨ i = 32 ∨ i = 33 ∨ i = 34 := by
      have : i < 35 := hi
      omega
    rcases hcases with rfl | rfl | rfl | rfl | rfl | rfl | rfl | rfl | rfl | rfl | rfl | rfl | rfl | rfl | rfl | rfl | rfl | rfl | rfl | rfl | rfl | rfl | rfl | rfl | rfl | rfl | rfl | rfl | rfl | rfl | rfl | rfl | rfl | rfl | rfl
    · cases ho
      exact ⟨wanted_none rfl, op_move 5 rfl ⟨_, rfl, Below.refl _ _, hI, s5⟩⟩
    · cases ho
      exact ⟨wanted_none rfl, op_move 3 rfl ⟨_, rfl, Below.refl _ _, hI, s3⟩⟩
    · cases ho
      exact ⟨wanted_none rfl, wp_load_row 27 (.tmp 4) rfl B4 s4 _ _ _ _ SX.fb Try.underlying27 rfl (by kernel_rfl) ⟨_, rfl, Below.refl _ _, hI, rfl⟩⟩
    · cases ho
      have q1 : a.tmps[29]?.getD undef = .slice (some ⟨g, 0, none⟩) n c := by have h := hp 1 29 (of_decide_eq_true (by kernel_rfl)) (.inr (by decide)) rfl; have h2 : a.tmps.getD 29 undef = .slice (some ⟨g, 0, none⟩) n c := h; simpa using h2
      have q2 : a.tmps[30]?.getD undef = .agg #[.int .i64 e0, .int .i64 e1, .slice a1 n1 c1, .int .i64 e3, .int .i64 e4, .int .i64 e5, .int .i64 e6, .int .i64 e7, .int .i64 e8, .int .i64 e9, .string eb] := by have h := hp 2 30 (of_decide_eq_true (by kernel_rfl)) (.inr (by decide)) rfl; have h2 : a.tmps.getD 30 undef = .agg #[.int .i64 e0, .int .i64 e1, .slice a1 n1 c1, .int .i64 e3, .int .i64 e4, .int .i64 e5, .int .i64 e6, .int .i64 e7, .int .i64 e8, .int .i64 e9, .string eb] := h; simpa using h2
      refine ⟨wanted_none rfl, op_callB (by simp [execOp, resolve, Deferred.ofValue, invoke, Act.eval, q1, q2]) (K10'.out _ SX.rus SX.ints) ?_⟩
      rintro e y ⟨rfl, hb⟩
      exact ⟨_, rfl, _, rfl, hb, hI.trans (hb.mono hI.size), rfl⟩
    · cases ho
      have q0 : a.tmps[28]?.getD undef = .int .i64 kv := by have h := hp 0 28 (of_decide_eq_true (by kernel_rfl)) (.inr (by decide)) rfl; have h2 : a.tmps.getD 28 undef = .int .i64 kv := h; simpa using h2
      have q3 : a.tmps[31]?.getD undef = .int .i64 kv := by have h := hp 3 31 (of_decide_eq_true (by kernel_rfl)) (.inr (by decide)) rfl; have h2 : a.tmps.getD 31 undef = .int .i64 kv := h; simpa using h2
      refine ⟨wanted_none rfl, ?_⟩
      unfold Oper.wp
      simp [go_sem, q0, q3]
      exact ⟨_, rfl, Below.refl _ _, hI, by first | rfl | (show _ = Value.bool false; simp)⟩
    · cases ho
      have h := hp 4 32 (of_decide_eq_true (by kernel_rfl)) (.inr (by decide)) rfl
      exact ⟨wanted_none rfl, op_move 32 rfl ⟨_, rfl, Below.refl _ _, hI, h⟩⟩
    · cases ho
      exact ⟨wanted_of (j := 5) (d := 33) (b := false) rfl rfl (hp 5 33 (of_decide_eq_true (by kernel_rfl)) (.inr (by decide)) rfl), wp_load_row 32 (.tmp 6) rfl B6 s6 _ _ _ _ b6 Try.underlying32 rfl (by kernel_rfl) ⟨_, rfl, Below.refl _ _, hI, rfl⟩⟩
    · cases ho
      exact ⟨wanted_of (j := 5) (d := 33) (b := false) rfl rfl (hp 5 33 (of_decide_eq_true (by kernel_rfl)) (.inr (by decide)) rfl), wp_load_row 27 (.tmp 7) rfl (B6 + 1) s7 _ _ _ _ b7 Try.underlying27 rfl (by kernel_rfl) ⟨_, rfl, Below.refl _ _, hI, rfl⟩⟩
    · cases ho
      have q6 : a.tmps[34]?.getD undef = .agg #[.int .i64 r.id, .int .i64 r.prio, .int .i64 r.snet, .int .i64 r.sbits, .int .i64 r.dnet, .int .i64 r.dbits, .int .i64 r.proto, .int .i64 r.low, .int .i64 r.high, .int .i64 r.cls] := by have h := hp 6 34 (of_decide_eq_true (by kernel_rfl)) (.inr (by decide)) rfl; have h2 : a.tmps.getD 34 undef = .agg #[.int .i64 r.id, .int .i64 r.prio, .int .i64 r.snet, .int .i64 r.sbits, .int .i64 r.dnet, .int .i64 r.dbits, .int .i64 r.proto, .int .i64 r.low, .int .i64 r.high, .int .i64 r.cls] := h; simpa using h2
      have q7 : a.tmps[35]?.getD undef = .agg #[.int .i64 d0, .int .i64 d1, .slice a2 n2 c2, .int .i64 d3, .int .i64 d4, .int .i64 d5, .int .i64 d6, .int .i64 d7, .int .i64 d8, .int .i64 d9, .string db] := by have h := hp 7 35 (of_decide_eq_true (by kernel_rfl)) (.inr (by decide)) rfl; have h2 : a.tmps.getD 35 undef = .agg #[.int .i64 d0, .int .i64 d1, .slice a2 n2 c2, .int .i64 d3, .int .i64 d4, .int .i64 d5, .int .i64 d6, .int .i64 d7, .int .i64 d8, .int .i64 d9, .string db] := h; simpa using h2
      refine ⟨wanted_of (j := 5) (d := 33) (b := false) rfl rfl (hp 5 33 (of_decide_eq_true (by kernel_rfl)) (.inr (by decide)) rfl), op_callB (by simp [execOp, resolve, Deferred.ofValue, invoke, Act.eval, q6, q7]) (K11'.out _ i2) ?_⟩
      rintro e y ⟨rfl, hb⟩
      exact ⟨_, rfl, _, rfl, hb, hI.trans (hb.mono hI.size), rfl⟩
    · cases ho
      exact ⟨wanted_of (j := 5) (d := 33) (b := false) rfl rfl (hp 5 33 (of_decide_eq_true (by kernel_rfl)) (.inr (by decide)) rfl), wp_load_row 32 (.tmp 6) rfl B6 s6 _ _ _ _ b6 Try.underlying32 rfl (by kernel_rfl) ⟨_, rfl, Below.refl _ _, hI, rfl⟩⟩
    · cases ho
      exact ⟨wanted_of (j := 5) (d := 33) (b := false) rfl rfl (hp 5 33 (of_decide_eq_true (by kernel_rfl)) (.inr (by decide)) rfl), wp_load_row 27 (.tmp 7) rfl (B6 + 1) s7 _ _ _ _ b7 Try.underlying27 rfl (by kernel_rfl) ⟨_, rfl, Below.refl _ _, hI, rfl⟩⟩
    · cases ho
      have q9 : a.tmps[37]?.getD undef = .agg #[.int .i64 r.id, .int .i64 r.prio, .int .i64 r.snet, .int .i64 r.sbits, .int .i64 r.dnet, .int .i64 r.dbits, .int .i64 r.proto, .int .i64 r.low, .int .i64 r.high, .int .i64 r.cls] := by have h := hp 9 37 (of_decide_eq_true (by kernel_rfl)) (.inr (by decide)) rfl; have h2 : a.tmps.getD 37 undef = .agg #[.int .i64 r.id, .int .i64 r.prio, .int .i64 r.snet, .int .i64 r.sbits, .int .i64 r.dnet, .int .i64 r.dbits, .int .i64 r.proto, .int .i64 r.low, .int .i64 r.high, .int .i64 r.cls] := h; simpa using h2
      have q10 : a.tmps[38]?.getD undef = .agg #[.int .i64 d0, .int .i64 d1, .slice a2 n2 c2, .int .i64 d3, .int .i64 d4, .int .i64 d5, .int .i64 d6, .int .i64 d7, .int .i64 d8, .int .i64 d9, .string db] := by have h := hp 10 38 (of_decide_eq_true (by kernel_rfl)) (.inr (by decide)) rfl; have h2 : a.tmps.getD 38 undef = .agg #[.int .i64 d0, .int .i64 d1, .slice a2 n2 c2, .int .i64 d3, .int .i64 d4, .int .i64 d5, .int .i64 d6, .int .i64 d7, .int .i64 d8, .int .i64 d9, .string db] := h; simpa using h2
      refine ⟨wanted_of (j := 5) (d := 33) (b := false) rfl rfl (hp 5 33 (of_decide_eq_true (by kernel_rfl)) (.inr (by decide)) rfl), op_callB (by simp [execOp, resolve, Deferred.ofValue, invoke, Act.eval, q9, q10]) (K12'.out _ i2) ?_⟩
      rintro e y ⟨rfl, hb⟩
      exact ⟨_, rfl, _, rfl, hb, hI.trans (hb.mono hI.size), rfl⟩
    · cases ho
      have q8 : a.tmps[36]?.getD undef = .bool mv := by have h := hp 8 36 (of_decide_eq_true (by kernel_rfl)) (.inr (by decide)) rfl; have h2 : a.tmps.getD 36 undef = .bool mv := h; simpa using h2
      have q11 : a.tmps[39]?.getD undef = .bool mv := by have h := hp 11 39 (of_decide_eq_true (by kernel_rfl)) (.inr (by decide)) rfl; have h2 : a.tmps.getD 39 undef = .bool mv := h; simpa using h2
      refine ⟨wanted_of (j := 5) (d := 33) (b := false) rfl rfl (hp 5 33 (of_decide_eq_true (by kernel_rfl)) (.inr (by decide)) rfl), ?_⟩
      unfold Oper.wp
      simp [go_sem, q8, q11]
      exact ⟨_, rfl, Below.refl _ _, hI, by first | rfl | (show _ = Value.bool false; simp)⟩
    · cases ho
      have q5 : a.tmps[33]?.getD undef = .bool false := by have h := hp 5 33 (of_decide_eq_true (by kernel_rfl)) (.inr (by decide)) rfl; have h2 : a.tmps.getD 33 undef = .bool false := h; simpa using h2
      have q12 : a.tmps[40]?.getD undef = .bool false := by have h := hp 12 40 (of_decide_eq_true (by kernel_rfl)) (.inr (by decide)) rfl; have h2 : a.tmps.getD 40 undef = .bool false := h; simpa using h2
      refine ⟨wanted_none rfl, ?_⟩
      unfold Oper.wp
      simp [go_sem, q5, q12]
      exact ⟨_, rfl, Below.refl _ _, hI, by first | rfl | (show _ = Value.bool false; simp)⟩
    · cases ho
      have h := hp 13 41 (of_decide_eq_true (by kernel_rfl)) (.inr (by decide)) rfl
      exact ⟨wanted_none rfl, op_move 41 rfl ⟨_, rfl, Below.refl _ _, hI, h⟩⟩
    · cases ho
      exact ⟨wanted_of (j := 14) (d := 42) (b := false) rfl rfl (hp 14 42 (of_decide_eq_true (by kernel_rfl)) (.inr (by decide)) rfl), op_move 8 rfl ⟨_, rfl, Below.refl _ _, hI, s8⟩⟩
    · cases ho
      have q15 : a.tmps[43]?.getD undef = .slice (some ⟨gs, 0, none⟩) ns cs := by have h := hp 15 43 (of_decide_eq_true (by kernel_rfl)) (.inr (by decide)) rfl; have h2 : a.tmps.getD 43 undef = .slice (some ⟨gs, 0, none⟩) ns cs := h; simpa using h2
      refine ⟨wanted_of (j := 14) (d := 42) (b := false) rfl rfl (hp 14 42 (of_decide_eq_true (by kernel_rfl)) (.inr (by decide)) rfl), op_callB (by simp [execOp, resolve, Deferred.ofValue, invoke, Act.eval, q15]) (K14'.out _ rM) ?_⟩
      rintro e y ⟨⟨v, rfl, hr⟩, hb⟩
      exact ⟨_, rfl, _, rfl, hb, hI.trans (hb.mono hI.size), Xsh.out _ _ _ hr⟩
    · cases ho
      exact ⟨wanted_of (j := 14) (d := 42) (b := false) rfl rfl (hp 14 42 (of_decide_eq_true (by kernel_rfl)) (.inr (by decide)) rfl), op_move 8 rfl ⟨_, rfl, Below.refl _ _, hI, s8⟩⟩
    · cases ho
      have q17 : a.tmps[45]?.getD undef = .slice (some ⟨gs, 0, none⟩) ns cs := by have h := hp 17 45 (of_decide_eq_true (by kernel_rfl)) (.inr (by decide)) rfl; have h2 : a.tmps.getD 45 undef = .slice (some ⟨gs, 0, none⟩) ns cs := h; simpa using h2
      refine ⟨wanted_of (j := 14) (d := 42) (b := false) rfl rfl (hp 14 42 (of_decide_eq_true (by kernel_rfl)) (.inr (by decide)) rfl), op_callB (by simp [execOp, resolve, Deferred.ofValue, invoke, Act.eval, q17]) (K15'.out _ rM) ?_⟩
      rintro e y ⟨⟨v, rfl, hr⟩, hb⟩
      exact ⟨_, rfl, _, rfl, hb, hI.trans (hb.mono hI.size), Xsh.out _ _ _ hr⟩
    · cases ho
      obtain ⟨x1, y1, ex, hx⟩ : ∃ p q, a.tmps.getD 44 undef = .slice p xl q ∧ IntsAt x p X := hp 16 44 (of_decide_eq_true (by kernel_rfl)) (.inr (by decide)) rfl
      obtain ⟨x2, y2, ey, hy⟩ : ∃ p q, a.tmps.getD 46 undef = .slice p xl q ∧ IntsAt x p X := hp 18 46 (of_decide_eq_true (by kernel_rfl)) (.inr (by decide)) rfl
      have q1 : a.tmps[44]?.getD undef = .slice x1 xl y1 := by simpa using ex
      have q2 : a.tmps[46]?.getD undef = .slice x2 xl y2 := by simpa using ey
      refine ⟨wanted_of (j := 14) (d := 42) (b := false) rfl rfl (hp 14 42 (of_decide_eq_true (by kernel_rfl)) (.inr (by decide)) rfl), op_callB (by simp [execOp, resolve, Deferred.ofValue, invoke, Act.eval, q1, q2]) (K13'.out x1 x2 y1 y2 _ hx hy) ?_⟩
      rintro e y ⟨rfl, hb⟩
      exact ⟨_, rfl, _, rfl, hb, hI.trans (hb.mono hI.size), rfl⟩
    · cases ho
      have q19 : a.tmps[47]?.getD undef = .bool true := by have h := hp 19 47 (of_decide_eq_true (by kernel_rfl)) (.inr (by decide)) rfl; have h2 : a.tmps.getD 47 undef = .bool true := h; simpa using h2
      refine ⟨wanted_of (j := 14) (d := 42) (b := false) rfl rfl (hp 14 42 (of_decide_eq_true (by kernel_rfl)) (.inr (by decide)) rfl), ?_⟩
      unfold Oper.wp
      simp [go_sem, q19]
      exact ⟨_, rfl, Below.refl _ _, hI, by first | rfl | (show _ = Value.bool false; simp)⟩
    · cases ho
      have q14 : a.tmps[42]?.getD undef = .bool false := by have h := hp 14 42 (of_decide_eq_true (by kernel_rfl)) (.inr (by decide)) rfl; have h2 : a.tmps.getD 42 undef = .bool false := h; simpa using h2
      have q20 : a.tmps[48]?.getD undef = .bool false := by have h := hp 20 48 (of_decide_eq_true (by kernel_rfl)) (.inr (by decide)) rfl; have h2 : a.tmps.getD 48 undef = .bool false := h; simpa using h2
      refine ⟨wanted_none rfl, ?_⟩
      unfold Oper.wp
      simp [go_sem, q14, q20]
      exact ⟨_, rfl, Below.refl _ _, hI, by first | rfl | (show _ = Value.bool false; simp)⟩
    · cases ho
      have h := hp 21 49 (of_decide_eq_true (by kernel_rfl)) (.inr (by decide)) rfl
      exact ⟨wanted_none rfl, op_move 49 rfl ⟨_, rfl, Below.refl _ _, hI, h⟩⟩
    · cases ho
      exact ⟨wanted_of (j := 22) (d := 50) (b := false) rfl rfl (hp 22 50 (of_decide_eq_true (by kernel_rfl)) (.inr (by decide)) rfl), op_move 3 rfl ⟨_, rfl, Below.refl _ _, hI, s3⟩⟩
    · cases ho
      have q23 : a.tmps[51]?.getD undef = .slice (some ⟨g, 0, none⟩) n c := by have h := hp 23 51 (of_decide_eq_true (by kernel_rfl)) (.inr (by decide)) rfl; have h2 : a.tmps.getD 51 undef = .slice (some ⟨g, 0, none⟩) n c := h; simpa using h2
      refine ⟨wanted_of (j := 22) (d := 50) (b := false) rfl rfl (hp 22 50 (of_decide_eq_true (by kernel_rfl)) (.inr (by decide)) rfl), op_callB (by simp [execOp, resolve, Deferred.ofValue, invoke, Act.eval, q23]) (K16'.out _ SX.rus) ?_⟩
      rintro e y ⟨rfl, hb⟩
      exact ⟨_, rfl, _, rfl, hb, hI.trans (hb.mono hI.size), rfl⟩
    · cases ho
      exact ⟨wanted_of (j := 22) (d := 50) (b := false) rfl rfl (hp 22 50 (of_decide_eq_true (by kernel_rfl)) (.inr (by decide)) rfl), op_move 3 rfl ⟨_, rfl, Below.refl _ _, hI, s3⟩⟩
    · cases ho
      have q25 : a.tmps[53]?.getD undef = .slice (some ⟨g, 0, none⟩) n c := by have h := hp 25 53 (of_decide_eq_true (by kernel_rfl)) (.inr (by decide)) rfl; have h2 : a.tmps.getD 53 undef = .slice (some ⟨g, 0, none⟩) n c := h; simpa using h2
      refine ⟨wanted_of (j := 22) (d := 50) (b := false) rfl rfl (hp 22 50 (of_decide_eq_true (by kernel_rfl)) (.inr (by decide)) rfl), op_callB (by simp [execOp, resolve, Deferred.ofValue, invoke, Act.eval, q25]) (K17'.out _ SX.rus) ?_⟩
      rintro e y ⟨rfl, hb⟩
      exact ⟨_, rfl, _, rfl, hb, hI.trans (hb.mono hI.size), rfl⟩
    · cases ho
      have q24 : a.tmps[52]?.getD undef = .bool ro := by have h := hp 24 52 (of_decide_eq_true (by kernel_rfl)) (.inr (by decide)) rfl; have h2 : a.tmps.getD 52 undef = .bool ro := h; simpa using h2
      have q26 : a.tmps[54]?.getD undef = .bool ro := by have h := hp 26 54 (of_decide_eq_true (by kernel_rfl)) (.inr (by decide)) rfl; have h2 : a.tmps.getD 54 undef = .bool ro := h; simpa using h2
      refine ⟨wanted_of (j := 22) (d := 50) (b := false) rfl rfl (hp 22 50 (of_decide_eq_true (by kernel_rfl)) (.inr (by decide)) rfl), ?_⟩
      unfold Oper.wp
      simp [go_sem, q24, q26]
      exact ⟨_, rfl, Below.refl _ _, hI, by first | rfl | (show _ = Value.bool false; simp)⟩
    · cases ho
      have q22 : a.tmps[50]?.getD undef = .bool false := by have h := hp 22 50 (of_decide_eq_true (by kernel_rfl)) (.inr (by decide)) rfl; have h2 : a.tmps.getD 50 undef = .bool false := h; simpa using h2
      have q27 : a.tmps[55]?.getD undef = .bool false := by have h := hp 27 55 (of_decide_eq_true (by kernel_rfl)) (.inr (by decide)) rfl; have h2 : a.tmps.getD 55 undef = .bool false := h; simpa using h2
      refine ⟨wanted_none rfl, ?_⟩
      unfold Oper.wp
      simp [go_sem, q22, q27]
      exact ⟨_, rfl, Below.refl _ _, hI, by first | rfl | (show _ = Value.bool false; simp)⟩
    · cases ho
      have h := hp 28 56 (of_decide_eq_true (by kernel_rfl)) (.inr (by decide)) rfl
      exact ⟨wanted_none rfl, op_move 56 rfl ⟨_, rfl, Below.refl _ _, hI, h⟩⟩
    · cases ho
      exact ⟨wanted_of (j := 29) (d := 57) (b := false) rfl rfl (hp 29 57 (of_decide_eq_true (by kernel_rfl)) (.inr (by decide)) rfl), op_move 8 rfl ⟨_, rfl, Below.refl _ _, hI, s8⟩⟩
    · cases ho
      have q30 : a.tmps[58]?.getD undef = .slice (some ⟨gs, 0, none⟩) ns cs := by have h := hp 30 58 (of_decide_eq_true (by kernel_rfl)) (.inr (by decide)) rfl; have h2 : a.tmps.getD 58 undef = .slice (some ⟨gs, 0, none⟩) ns cs := h; simpa using h2
      refine ⟨wanted_of (j := 29) (d := 57) (b := false) rfl rfl (hp 29 57 (of_decide_eq_true (by kernel_rfl)) (.inr (by decide)) rfl), op_callB (by simp [execOp, resolve, Deferred.ofValue, invoke, Act.eval, q30]) (K14'.out _ rM) ?_⟩
      rintro e y ⟨⟨v, rfl, hr⟩, hb⟩
      exact ⟨_, rfl, _, rfl, hb, hI.trans (hb.mono hI.size), Xsh.out _ _ _ hr⟩
    · cases ho
      obtain ⟨x1, y1, ex, hx⟩ : ∃ p q, a.tmps.getD 59 undef = .slice p xl q ∧ IntsAt x p X := hp 31 59 (of_decide_eq_true (by kernel_rfl)) (.inr (by decide)) rfl
      have q1 : a.tmps[59]?.getD undef = .slice x1 xl y1 := by simpa using ex
      refine ⟨wanted_of (j := 29) (d := 57) (b := false) rfl rfl (hp 29 57 (of_decide_eq_true (by kernel_rfl)) (.inr (by decide)) rfl), op_callB (by simp [execOp, resolve, Deferred.ofValue, invoke, Act.eval, q1]) (K18'.out x1 y1 _ hx) ?_⟩
      rintro e y ⟨rfl, hb⟩
      exact ⟨_, rfl, _, rfl, hb, hI.trans (hb.mono hI.size), rfl⟩
    · cases ho
      have q32 : a.tmps[60]?.getD undef = .bool true := by have h := hp 32 60 (of_decide_eq_true (by kernel_rfl)) (.inr (by decide)) rfl; have h2 : a.tmps.getD 60 undef = .bool true := h; simpa using h2
      refine ⟨wanted_of (j := 29) (d := 57) (b := false) rfl rfl (hp 29 57 (of_decide_eq_true (by kernel_rfl)) (.inr (by decide)) rfl), ?_⟩
      unfold Oper.wp
      simp [go_sem, q32]
      exact ⟨_, rfl, Below.refl _ _, hI, by first | rfl | (show _ = Value.bool false; simp)⟩
    · cases ho
      have q29 : a.tmps[57]?.getD undef = .bool false := by have h := hp 29 57 (of_decide_eq_true (by kernel_rfl)) (.inr (by decide)) rfl; have h2 : a.tmps.getD 57 undef = .bool false := h; simpa using h2
      have q33 : a.tmps[61]?.getD undef = .bool false := by have h := hp 33 61 (of_decide_eq_true (by kernel_rfl)) (.inr (by decide)) rfl; have h2 : a.tmps.getD 61 undef = .bool false := h; simpa using h2
      refine ⟨wanted_none rfl, ?_⟩
      unfold Oper.wp
      simp [go_sem, q29, q33]
      exact ⟨_, rfl, Below.refl _ _, hI, by first | rfl | (show _ = Value.bool false; simp)⟩
  case last =>
    intro a x hkp hI hp
    have e62 : a.tmps.getD 62 undef = .bool false := hp 34 62 (by decide) rfl
    have ha := hkp.pick [true, true, true, true, true, true, true, true, true, true, true, true, true, true, true, true, true, true, true, true, true, true, true, true, true, true, true, true, false, false, false, false, false, false, false, false, false, false, false, false, false, false, false, false, false, false, false, false, false, false, false, false, false, false, false, false, false, false, false, false, false, false, false, true, true, true, true, true, true, true, true, true, true, true, true, true, true, true, true, true, true, true, true, true, true, true, true, true, true, true, true, true, true, true, true, true, true, true, true, true, true, true, true, true, true, true, true, true, true, true, true, true, true, true, true, true, true, true, true, true, true, true] (by kernel_rfl)
    simp only [pickS] at ha
    rw [e62] at ha
    have S7 : Hid (RlS w g L B4 #[.int .i64 e0, .int .i64 e1, .slice a1 n1 c1, .int .i64 e3, .int .i64 e4, .int .i64 e5, .int .i64 e6, .int .i64 e7, .int .i64 e8, .int .i64 e9, .string eb] a1 t1 x) := S6.out.1.below hI
    clear hp hkp e62 S6
    generalize a.tmps.getD 28 undef = y28 at ha
    generalize a.tmps.getD 29 undef = y29 at ha
    generalize a.tmps.getD 30 undef = y30 at ha
    generalize a.tmps.getD 31 undef = y31 at ha
    generalize a.tmps.getD 32 undef = y32 at ha
    generalize a.tmps.getD 33 undef = y33 at ha
    generalize a.tmps.getD 34 undef = y34 at ha
    generalize a.tmps.getD 35 undef = y35 at ha
    generalize a.tmps.getD 36 undef = y36 at ha
    generalize a.tmps.getD 37 undef = y37 at ha
    generalize a.tmps.getD 38 undef = y38 at ha
    generalize a.tmps.getD 39 undef = y39 at ha
    generalize a.tmps.getD 40 undef = y40 at ha
    generalize a.tmps.getD 41 undef = y41 at ha
    generalize a.tmps.getD 42 undef = y42 at ha
    generalize a.tmps.getD 43 undef = y43 at ha
    generalize a.tmps.getD 44 undef = y44 at ha
    generalize a.tmps.getD 45 undef = y45 at ha
    generalize a.tmps.getD 46 undef = y46 at ha
    generalize a.tmps.getD 47 undef = y47 at ha
    generalize a.tmps.getD 48 undef = y48 at ha
    generalize a.tmps.getD 49 undef = y49 at ha
    generalize a.tmps.getD 50 undef = y50 at ha
    generalize a.tmps.getD 51 undef = y51 at ha
    generalize a.tmps.getD 52 undef = y52 at ha
    generalize a.tmps.getD 53 undef = y53 at ha
    generalize a.tmps.getD 54 undef = y54 at ha
    generalize a.tmps.getD 55 undef = y55 at ha
    generalize a.tmps.getD 56 undef = y56 at ha
    generalize a.tmps.getD 57 undef = y57 at ha
    generalize a.tmps.getD 58 undef = y58 at ha
    generalize a.tmps.getD 59 undef = y59 at ha
    generalize a.tmps.getD 60 undef = y60 at ha
    generalize a.tmps.getD 61 undef = y61 at ha
    rw [ha]
    clear ha hI
    by_cases hok : ro = true ∧ fo = true
    rotate_left
    · have hk : kv = -1 := by
        have h := HK.out
        rw [← h.1]
        unfold classV
        rw [h.2.1, h.2.2, if_neg hok]
      subst hk
      go_wp2_with fail
      refine (K17'.out _ S7.out.rus).mono ?_
      rintro e w8 ⟨rfl, q⟩
      have S8 : Hid (RlS w g L B4 #[.int .i64 e0, .int .i64 e1, .slice a1 n1 c1, .int .i64 e3, .int .i64 e4, .int .i64 e5, .int .i64 e6, .int .i64 e7, .int .i64 e8, .int .i64 e9, .string eb] a1 t1 w8) := S7.out.below q
      clear q S7
      cases ro
      · go_wp2
        go_ret
        exact ⟨rfl, S8.out.bel⟩
      · have x0 : w8.cell? ⟨B4, 0, none⟩ = some (.int .i64 e0) := S8.out.fb.cell 0 rfl
        have x1 : w8.cell? ⟨B4, 1, none⟩ = some (.int .i64 e1) := S8.out.fb.cell 1 rfl
        have x2 : w8.cell? ⟨B4, 2, none⟩ = some (.slice a1 n1 c1) := S8.out.fb.cell 2 rfl
        have x3 : w8.cell? ⟨B4, 3, none⟩ = some (.int .i64 e3) := S8.out.fb.cell 3 rfl
        have x4 : w8.cell? ⟨B4, 4, none⟩ = some (.int .i64 e4) := S8.out.fb.cell 4 rfl
        have x5 : w8.cell? ⟨B4, 5, none⟩ = some (.int .i64 e5) := S8.out.fb.cell 5 rfl
        have x6 : w8.cell? ⟨B4, 6, none⟩ = some (.int .i64 e6) := S8.out.fb.cell 6 rfl
        have x7 : w8.cell? ⟨B4, 7, none⟩ = some (.int .i64 e7) := S8.out.fb.cell 7 rfl
        have x8 : w8.cell? ⟨B4, 8, none⟩ = some (.int .i64 e8) := S8.out.fb.cell 8 rfl
        have x9 : w8.cell? ⟨B4, 9, none⟩ = some (.int .i64 e9) := S8.out.fb.cell 9 rfl
        have x10 : w8.cell? ⟨B4, 10, none⟩ = some (.string eb) := S8.out.fb.cell 10 rfl
        go_wp2_with fail
        refine (K19'.out _ S8.out.ints).mono ?_
        rintro e w9 ⟨rfl, q⟩
        have S9 : Hid (Below w.heap.size w w9) := S8.out.bel.trans (q.mono S8.out.bel.size)
        clear q S8
        cases fo
        · go_wp2
          go_ret
          exact ⟨rfl, S9.out⟩
        · exact absurd (by simp) hok
    obtain ⟨rfl, rfl⟩ := hok
    have hcl : kv = classL L fr := by
      have h := HK.out
      rw [← h.1]
      unfold classV
      rw [if_pos ⟨h.2.1, h.2.2⟩]
    have hk0 : ¬ kv < 0 := by
      have := class_pos HK.out.2.1 fr (by have := (best_bound L fr L.length).2; omega)
      omega
    have Hcl : Hid (kv = if bestK L fr n < 0 then 0 else (ruAt L (bestK L fr n).toNat).cls) := by
      show kv = _
      rw [hcl]
      unfold classL
      rw [Hn.out]
    clear hcl
    go_wp2_with fail
    go_loopw [9, 10] (fun best i wr => ∃ (k : Nat) (b : Int), k ≤ n ∧ best = .int .i64 b ∧ i = .int .i64 k ∧ bestK L fr k = b ∧ -1 ≤ b ∧ b < k ∧ Hid (RlS w g L B4 #[.int .i64 e0, .int .i64 e1, .slice a1 n1 c1, .int .i64 e3, .int .i64 e4, .int .i64 e5, .int .i64 e6, .int .i64 e7, .int .i64 e8, .int .i64 e9, .string eb] a1 t1 wr)) (fun _ i _ => n - (intOf i).toNat)
    case atStart => exact ⟨0, -1, Nat.zero_le _, rfl, rfl, rfl, by omega, by omega, S7⟩
    case round =>
      obtain ⟨k, b, hk, rfl, rfl, hbk, hb0, hb1, S9⟩ := hrel
      by_cases hlt : k < n
      · have hlt' : (k : Int) < (n : Int) := by omega
        haveI : Nonempty (BelW wr.heap.size wr) := ⟨⟨wr, Below.refl _ _⟩⟩
        have HI : Hid (∀ p : BelW wr.heap.size wr, IntsAt p.w' a1 t1) := fun p => S9.out.ints.below p.h
        have hrk : (ruAt L k).ok = true := rus_ok HK.out.2.1 (by rw [Hn.out]; exact hlt)
        have hmv : matchV (ruAt L k) fr = (ruAt L k).hits fr := by unfold matchV; rw [hrk, HK.out.2.2]; rfl
        have Hs0 : Hid (bestK L fr (k + 1) = if ((ruAt L k).hits fr && (decide (b < 0) || (ruAt L k).ahead (ruAt L b.toNat))) = true then (k : Int) else b) := by
          show bestK L fr (k + 1) = _
          rw [bestK_succ, hbk]
          rfl
        have Hap : Hid (∀ bn : Nat, bn < k → (ruAt L k).ahead (ruAt L bn) = decide ((ruAt L bn).prio < (ruAt L k).prio)) := fun bn h => ahead_prio HK.out.2.1 h (by rw [Hn.out]; exact hlt)
        have C := fun w hi => KM'.out (ruAt L k) w hi
        rw [← Hfr.out, hmv] at C
        unfold Ru.val at C
        clear hmv hrk
        have f0 := fun p : BelW wr.heap.size wr => ((S9.out.rus.below p.h).cells (k := k) (by rw [Hn.out]; exact hlt)).1
        have f1 := fun p : BelW wr.heap.size wr => ((S9.out.rus.below p.h).cells (k := k) (by rw [Hn.out]; exact hlt)).2.1
        have f2 := fun p : BelW wr.heap.size wr => ((S9.out.rus.below p.h).cells (k := k) (by rw [Hn.out]; exact hlt)).2.2.1
        have f3 := fun p : BelW wr.heap.size wr => ((S9.out.rus.below p.h).cells (k := k) (by rw [Hn.out]; exact hlt)).2.2.2.1
        have f4 := fun p : BelW wr.heap.size wr => ((S9.out.rus.below p.h).cells (k := k) (by rw [Hn.out]; exact hlt)).2.2.2.2.1
        have f5 := fun p : BelW wr.heap.size wr => ((S9.out.rus.below p.h).cells (k := k) (by rw [Hn.out]; exact hlt)).2.2.2.2.2.1
        have f6 := fun p : BelW wr.heap.size wr => ((S9.out.rus.below p.h).cells (k := k) (by rw [Hn.out]; exact hlt)).2.2.2.2.2.2.1
        have f7 := fun p : BelW wr.heap.size wr => ((S9.out.rus.below p.h).cells (k := k) (by rw [Hn.out]; exact hlt)).2.2.2.2.2.2.2.1
        have f8 := fun p : BelW wr.heap.size wr => ((S9.out.rus.below p.h).cells (k := k) (by rw [Hn.out]; exact hlt)).2.2.2.2.2.2.2.2.1
        have f9 := fun p : BelW wr.heap.size wr => ((S9.out.rus.below p.h).cells (k := k) (by rw [Hn.out]; exact hlt)).2.2.2.2.2.2.2.2.2
        simp only [Nat.zero_add] at f0 f1 f2 f3 f4 f5 f6 f7 f8 f9
        have h0 : ∀ p : BelW wr.heap.size wr, p.w'.cell? ⟨B4, 0, none⟩ = some (.int .i64 e0) := fun p => (S9.out.fb.below S9.out.fb.under p.h).cell 0 rfl
        have h1 : ∀ p : BelW wr.heap.size wr, p.w'.cell? ⟨B4, 1, none⟩ = some (.int .i64 e1) := fun p => (S9.out.fb.below S9.out.fb.under p.h).cell 1 rfl
        have h2 : ∀ p : BelW wr.heap.size wr, p.w'.cell? ⟨B4, 2, none⟩ = some (.slice a1 n1 c1) := fun p => (S9.out.fb.below S9.out.fb.under p.h).cell 2 rfl
        have h3 : ∀ p : BelW wr.heap.size wr, p.w'.cell? ⟨B4, 3, none⟩ = some (.int .i64 e3) := fun p => (S9.out.fb.below S9.out.fb.under p.h).cell 3 rfl
        have h4 : ∀ p : BelW wr.heap.size wr, p.w'.cell? ⟨B4, 4, none⟩ = some (.int .i64 e4) := fun p => (S9.out.fb.below S9.out.fb.under p.h).cell 4 rfl
        have h5 : ∀ p : BelW wr.heap.size wr, p.w'.cell? ⟨B4, 5, none⟩ = some (.int .i64 e5) := fun p => (S9.out.fb.below S9.out.fb.under p.h).cell 5 rfl
        have h6 : ∀ p : BelW wr.heap.size wr, p.w'.cell? ⟨B4, 6, none⟩ = some (.int .i64 e6) := fun p => (S9.out.fb.below S9.out.fb.under p.h).cell 6 rfl
        have h7 : ∀ p : BelW wr.heap.size wr, p.w'.cell? ⟨B4, 7, none⟩ = some (.int .i64 e7) := fun p => (S9.out.fb.below S9.out.fb.under p.h).cell 7 rfl
        have h8 : ∀ p : BelW wr.heap.size wr, p.w'.cell? ⟨B4, 8, none⟩ = some (.int .i64 e8) := fun p => (S9.out.fb.below S9.out.fb.under p.h).cell 8 rfl
        have h9 : ∀ p : BelW wr.heap.size wr, p.w'.cell? ⟨B4, 9, none⟩ = some (.int .i64 e9) := fun p => (S9.out.fb.below S9.out.fb.under p.h).cell 9 rfl
        have h10 : ∀ p : BelW wr.heap.size wr, p.w'.cell? ⟨B4, 10, none⟩ = some (.string eb) := fun p => (S9.out.fb.below S9.out.fb.under p.h).cell 10 rfl
        cases hh : (ruAt L k).hits fr
        · rw [hh] at C Hs0
          have Hs : Hid (bestK L fr (k + 1) = b) := by show bestK L fr (k + 1) = b; rw [Hs0.out]; rfl
          clear Hs0 hh Hap
          generalize ruAt L k = rk at f0 f1 f2 f3 f4 f5 f6 f7 f8 f9 C
          have C' : Hid _ := C
          clear C
          go_wp2
          refine region_below wr.heap.size (by kernel_rfl) (by kernel_rfl) ?_
          repeat (go_big_quiet_step ((go_at_call 11; refine quiet_below (Nat.le_refl _) (C'.out _ (HI.out _)))))
          refine wpQuiet_nil ?_
          intro wq hx
          have hq := BelW.out hx
          have SQ : Hid (RlS w g L B4 #[.int .i64 e0, .int .i64 e1, .slice a1 n1 c1, .int .i64 e3, .int .i64 e4, .int .i64 e5, .int .i64 e6, .int .i64 e7, .int .i64 e8, .int .i64 e9, .string eb] a1 t1 wq) := S9.out.below hq
          clear hx hq f0 f1 f2 f3 f4 f5 f6 f7 f8 f9 h0 h1 h2 h3 h4 h5 h6 h7 h8 h9 h10
          go_wp2
          go_roundw
          case rel => exact ⟨k + 1, b, by omega, rfl, by go_num, Hs.out, by omega, by omega, SQ⟩
          case measure => simp [intOf]; omega
        · rw [hh] at C Hs0
          clear hh
          by_cases hbn : b < 0
          · have Hs : Hid (bestK L fr (k + 1) = k) := by show bestK L fr (k + 1) = k; rw [Hs0.out, decide_eq_true hbn]; rfl
            clear Hs0 Hap
            generalize ruAt L k = rk at f0 f1 f2 f3 f4 f5 f6 f7 f8 f9 C
            have C' : Hid _ := C
            clear C
            go_wp2
            refine region_below wr.heap.size (by kernel_rfl) (by kernel_rfl) ?_
            repeat (go_big_quiet_step ((go_at_call 11; refine quiet_below (Nat.le_refl _) (C'.out _ (HI.out _)))))
            refine wpQuiet_nil ?_
            intro wq hx
            have hq := BelW.out hx
            have SQ : Hid (RlS w g L B4 #[.int .i64 e0, .int .i64 e1, .slice a1 n1 c1, .int .i64 e3, .int .i64 e4, .int .i64 e5, .int .i64 e6, .int .i64 e7, .int .i64 e8, .int .i64 e9, .string eb] a1 t1 wq) := S9.out.below hq
            clear hx hq f0 f1 f2 f3 f4 f5 f6 f7 f8 f9 h0 h1 h2 h3 h4 h5 h6 h7 h8 h9 h10
            go_wp2
            go_roundw
            case rel => exact ⟨k + 1, k, by omega, rfl, by go_num, Hs.out, by omega, by omega, SQ⟩
            case measure => simp [intOf]; omega
          · obtain ⟨bn, rfl⟩ := Int.eq_ofNat_of_zero_le (show 0 ≤ b by omega)
            have hbk' : bn < k := by omega
            have Hap2 := Hap.out bn hbk'
            have g1 := fun p : BelW wr.heap.size wr => ((S9.out.rus.below p.h).cells (k := bn) (by rw [Hn.out]; omega)).2.1
            simp only [Nat.zero_add] at g1
            have Hs1 : Hid (bestK L fr (k + 1) = if decide ((ruAt L bn).prio < (ruAt L k).prio) = true then (k : Int) else (bn : Int)) := by
              show bestK L fr (k + 1) = _
              rw [Hs0.out, decide_eq_false hbn, ← Hap2]
              simp
            have hbl : (bn : Int) < (n : Int) := by omega
            have hb00 : (0 : Int) ≤ (bn : Int) := by omega
            have hd0 : decide ((bn : Int) < 0) = false := decide_eq_false hbn
            clear Hs0 Hap Hap2
            generalize ruAt L bn = rb at g1 Hs1
            generalize ruAt L k = rk at f0 f1 f2 f3 f4 f5 f6 f7 f8 f9 C Hs1
            have C' : Hid _ := C
            clear C
            by_cases hpr : rb.prio < rk.prio
            · have Hs : Hid (bestK L fr (k + 1) = k) := by show bestK L fr (k + 1) = k; rw [Hs1.out, decide_eq_true hpr]; rfl
              clear Hs1
              go_wp2
              refine region_below wr.heap.size (by kernel_rfl) (by kernel_rfl) ?_
              repeat (go_big_quiet_step ((go_at_call 11; refine quiet_below (Nat.le_refl _) (C'.out _ (HI.out _)))))
              refine wpQuiet_nil ?_
              intro wq hx
              have hq := BelW.out hx
              have SQ : Hid (RlS w g L B4 #[.int .i64 e0, .int .i64 e1, .slice a1 n1 c1, .int .i64 e3, .int .i64 e4, .int .i64 e5, .int .i64 e6, .int .i64 e7, .int .i64 e8, .int .i64 e9, .string eb] a1 t1 wq) := S9.out.below hq
              clear hx hq f0 f1 f2 f3 f4 f5 f6 f7 f8 f9 h0 h1 h2 h3 h4 h5 h6 h7 h8 h9 h10 g1
              go_wp2
              go_roundw
              case rel => exact ⟨k + 1, k, by omega, rfl, by go_num, Hs.out, by omega, by omega, SQ⟩
              case measure => simp [intOf]; omega
            · have Hs : Hid (bestK L fr (k + 1) = bn) := by show bestK L fr (k + 1) = bn; rw [Hs1.out, decide_eq_false hpr]; rfl
              clear Hs1
              have hpr2 : decide (rb.prio < rk.prio) = false := decide_eq_false hpr
              go_wp2
              refine region_below wr.heap.size (by kernel_rfl) (by kernel_rfl) ?_
              repeat (go_big_quiet_step ((go_at_call 11; refine quiet_below (Nat.le_refl _) (C'.out _ (HI.out _)))))
              refine wpQuiet_nil ?_
              intro wq hx
              have hq := BelW.out hx
              have SQ : Hid (RlS w g L B4 #[.int .i64 e0, .int .i64 e1, .slice a1 n1 c1, .int .i64 e3, .int .i64 e4, .int .i64 e5, .int .i64 e6, .int .i64 e7, .int .i64 e8, .int .i64 e9, .string eb] a1 t1 wq) := S9.out.below hq
              clear hx hq f0 f1 f2 f3 f4 f5 f6 f7 f8 f9 h0 h1 h2 h3 h4 h5 h6 h7 h8 h9 h10 g1
              go_wp2
              go_roundw
              case rel => exact ⟨k + 1, bn, by omega, rfl, by go_num, Hs.out, by omega, by omega, SQ⟩
              case measure => simp [intOf]; omega
      · obtain rfl : k = n := by omega
        rw [hbk] at Hcl
        by_cases hbn : b < 0
        · have hz : kv = 0 := by rw [Hcl.out, if_pos hbn]
          subst hz
          go_wp2
          go_ret
          exact ⟨rfl, S9.out.bel⟩
        · obtain ⟨bn, rfl⟩ := Int.eq_ofNat_of_zero_le (show 0 ≤ b by omega)
          have hz : kv = (ruAt L bn).cls := by rw [Hcl.out, if_neg hbn]; rfl
          have c9 := (S9.out.rus.cells (k := bn) (by rw [Hn.out]; omega)).2.2.2.2.2.2.2.2.2
          rw [← hz] at c9
          simp only [Nat.zero_add] at c9
          clear hz Hcl
          have hbl : (bn : Int) < (k : Int) := by omega
          have hb00 : (0 : Int) ≤ (bn : Int) := by omega
          go_wp2
          go_ret
          exact ⟨by simp, S9.out.bel⟩
end Go.Proofs.Ytlffnpjnmimnlaa
