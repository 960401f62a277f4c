/-
  The walk of the law of the idle rules. By the verifier, by program.
-/
import Derived.Test.YtdifegaokdoleaaRuDrawW
import Derived.Test.YtdifegaokdoleaaRuClsI
import Derived.Test.YtdifegaokdoleaaRuIdlI
import Derived.Test.YtdifegaokdoleaaRuWid
import Derived.Test.YtdifegaokdoleaaRuTell
import Derived.Test.YtdifegaokdoleaaRegGuard
import Derived.Test.YtdifegaokdoleaaM12LikeJ
import Derived.Test.YtdifegaokdoleaaIdleMath
import Derived.Test.YtdifegaokdoleaaRuApp
namespace Go.Proofs.Ytdifegaokdoleaa
open Go.RowKit

/-- What lies. -/
structure IlS (w : World) (g : Nat) (L : List Ru) (p : Option Addr) (X : List Int) (W : World) : Prop where
  bel : Below w.heap.size w W
  rus : RusAt W (some ⟨g, 0, none⟩) L
  ids : IntsAt W p X
theorem IlS.below {w : World} {g : Nat} {L : List Ru} {p : Option Addr} {X : List Int} {W W' : World} (h : IlS w g L p X W) (q : Below W.heap.size W W') : IlS w g L p X W' :=
  ⟨h.bel.trans (q.mono h.bel.size), h.rus.below q, h.ids.below q⟩
/-- With the arguments of Wider and a frame. -/
structure IlT (w : World) (g : Nat) (L : List Ru) (p : Option Addr) (X : List Int) (B5 : Nat) (ca cb : Array Value) (B9 : Nat) (fc : Array Value) (a1 : Option Addr) (t1 : List Int) (W : World) : Prop where
  s : IlS w g L p X W
  ba : Boxed W B5 ca 32
  bb : Boxed W (B5 + 1) cb 32
  bf : Boxed W B9 fc 27
  ints : IntsAt W a1 t1
theorem IlT.below {w : World} {g : Nat} {L : List Ru} {p : Option Addr} {X : List Int} {B5 : Nat} {ca cb : Array Value} {B9 : Nat} {fc : Array Value} {a1 : Option Addr} {t1 : List Int} {W W' : World} (h : IlT w g L p X B5 ca cb B9 fc a1 t1 W) (q : Below W.heap.size W W') : IlT w g L p X B5 ca cb B9 fc a1 t1 W' :=
  ⟨h.s.below q, h.ba.below h.ba.under q, h.bb.below h.bb.under q, h.bf.below h.bf.under q, h.ints.below q⟩
theorem idleV_rise (l : List Ru) : (idleV l).Pairwise (· < ·) := by
  unfold idleV
  split
  · exact idleK_rise l _
  · exact List.Pairwise.nil
theorem wide_match (a b : Ru) (f : Fr) (h : widerV a b = true) (hb : matchV b f = true) : matchV a f = true := by
  unfold widerV at h
  unfold matchV at *
  simp only [Bool.and_eq_true] at *
  exact ⟨h.1, hb.2.1, Ru.wide_hits h.1 h.2.1 h.2.2 hb.2.2⟩
theorem lessL_len (l : List Ru) (xs : List Int) : (lessL l xs).length ≤ l.length := List.length_filter_le _ _
theorem lessL_step (l : List Ru) (xs : List Int) {k : Nat} (hk : k < l.length) : lessL (l.take (k + 1)) xs = lessL (l.take k) xs ++ (if (ruAt l k).id ∈ xs then [] else [ruAt l k]) := by
  unfold lessL
  rw [List.take_succ_eq_append_getElem hk, List.filter_append, ruAt_lt hk]
  by_cases h : l[k].id ∈ xs <;> simp [h]
theorem Kept0.pick {ops : Array Oper} {a0 a : Act} (h : Kept0 ops a0 a) (ds : List Bool) (hd : (List.range a0.tmps.size).map (notDst ops) = ds) :
    a = { tmps := (pickS ds a0.tmps.toList (fun k => a.tmps.getD k undef) 0).toArray, defers := a0.defers } := by
  obtain ⟨t, d⟩ := a
  have hdf : d = a0.defers := h.defers
  have hs : t.size = a0.tmps.size := h.size
  subst hdf
  have hl : ds.length = a0.tmps.toList.length := by rw [← hd]; simp
  congr 1
  apply Array.ext'
  apply List.ext_getElem?
  intro j
  by_cases hj : j < a0.tmps.size
  · rw [List.toList_toArray, pickS_get ds _ _ 0 j hl (by simpa using hj), ← hd]
    have e1 : ((List.range a0.tmps.size).map (notDst ops))[j]? = some (notDst ops j) := by simp [hj]
    rw [e1]
    by_cases hn : notDst ops j = true
    · rw [if_pos (by rw [hn])]
      have := h.slot j hn
      simp only [Array.getElem?_toList]
      have e2 : t[j]? = some (t.getD j undef) := by simp [Array.getD, show j < t.size by omega]
      have e3 : a0.tmps[j]? = some (a0.tmps.getD j undef) := by simp [Array.getD, hj]
      rw [e2, e3]
      exact congrArg some this
    · rw [if_neg (by intro e; exact hn (by simpa using e))]
      simp only [Array.getElem?_toList, Nat.zero_add]
      simp [Array.getD, show j < t.size by omega]
  · rw [List.getElem?_eq_none (by simp; omega), List.getElem?_eq_none (by rw [List.toList_toArray, pickS_len _ _ _ _ hl]; simp; omega)]
/-- What is known of each operation of the frame's literal. -/
def ilPr (cv : Value) (k : Nat) (base : Nat) : Nat → World → Value → Prop := fun i w v =>
  if i = 0 ∨ i = 3 ∨ i = 8 ∨ i = 14 then v = cv
  else if i = 1 ∨ i = 4 ∨ i = 9 ∨ i = 15 then v = .int .i64 k
  else if i = 10 then ∃ x : Int, v = .int .i64 x ∧ 0 ≤ x ∧ x ≤ 1000
  else if i = 11 then ∃ x : Int, v = .int .i64 x ∧ 0 ≤ x ∧ x < 3
  else if i = 7 then ∃ B, v = .slice (some ⟨B, 0, none⟩) 3 3 ∧ Boxed w B #[.int .i64 6, .int .i64 17, .int .i64 1] 2
  else if i = 12 then ∃ B j, v = .pointer (some ⟨B, j, none⟩) ∧ j < 3 ∧ Boxed w B #[.int .i64 6, .int .i64 17, .int .i64 1] 2
  else if i = 18 then ∃ x y z u : Int, v = .agg #[.int .i64 0, .int .i64 0, .slice none 0 0, .int .i64 x, .int .i64 y, .int .i64 z, .int .i64 0, .int .i64 u, .int .i64 0, .int .i64 0, .string ⟨#[]⟩]
  else if i = 19 then ∃ B, v = .pointer (some ⟨B, 0, none⟩) ∧ base ≤ B ∧ Boxed w B zeroFr 27
  else ∃ x : Int, v = .int .i64 x
theorem ilPr_keep {cv : Value} {k base : Nat} (i : Nat) (w w' : World) (v : Value) (h : ilPr cv k base i w v) (q : Below w.heap.size w w') : ilPr cv k base i w' v := by
  unfold ilPr at *
  split
  · rename_i h1; rw [if_pos h1] at h; exact h
  rename_i h1; rw [if_neg h1] at h
  split
  · rename_i h2; rw [if_pos h2] at h; exact h
  rename_i h2; rw [if_neg h2] at h
  split
  · rename_i h3; rw [if_pos h3] at h; exact h
  rename_i h3; rw [if_neg h3] at h
  split
  · rename_i h4; rw [if_pos h4] at h; exact h
  rename_i h4; rw [if_neg h4] at h
  split
  · rename_i h5; rw [if_pos h5] at h; obtain ⟨B, e, hb⟩ := h; exact ⟨B, e, hb.below hb.under q⟩
  rename_i h5; rw [if_neg h5] at h
  split
  · rename_i h6; rw [if_pos h6] at h; obtain ⟨B, j, e, hj, hb⟩ := h; exact ⟨B, j, e, hj, hb.below hb.under q⟩
  rename_i h6; rw [if_neg h6] at h
  split
  · rename_i h7; rw [if_pos h7] at h; exact h
  rename_i h7; rw [if_neg h7] at h
  split
  · rename_i h8; rw [if_pos h8] at h; obtain ⟨B, e, hl, hb⟩ := h; exact ⟨B, e, hl, hb.below hb.under q⟩
  rename_i h8; rw [if_neg h8] at h
  exact h

set_option maxHeartbeats 12800000 in
set_option maxRecDepth 100000 in
theorem fnIdle_walk (a : Option Addr) (len cap : Nat) (w : World)
    (hcode : ∀ k, k < len → ∃ b off z, a = some ⟨b, off, none⟩ ∧ b < w.heap.size ∧ w.cell? ⟨b, off + k, none⟩ = some (.int .u8 z) ∧ 0 ≤ z ∧ z ≤ 255) :
    Calls Try.prog 4 #[.slice a len cap] w fun e w' => e = .returned (.bool true) ∧ Below w.heap.size w w' := by
  by_cases hbig : 4096 < len
  · clear hcode
    go_enter Try.func4, Try.ntmps4
    go_wp2
    go_ret
    exact ⟨rfl, Below.refl _ _⟩
  have hc : Hid (Code w a len) := ⟨by omega, hcode⟩
  have hb : Hid (Below w.heap.size w w) := Below.refl _ _
  clear hcode
  go_enter Try.func4, Try.ntmps4
  go_wp2_with (go_at_call 5; go_in)
  refine (drawIdle hc _ hb).mono ?_
  rintro e w1 ⟨⟨g, c, L, rfl, hL, hLc, rL⟩, b1⟩
  have H1 : Hid (RusAt w1 (some ⟨g, 0, none⟩) L ∧ Below w.heap.size w w1) := ⟨rL, b1⟩
  clear rL b1
  have KI := fun w h => implIdle (some ⟨g, 0, none⟩) c L w (by omega) h
  have KS := fun w h => specIdle (some ⟨g, 0, none⟩) c L w (by omega) h
  have KR := fun w h => specRules (some ⟨g, 0, none⟩) c L w (by omega) h
  have KC := fun (x y z u : Int) w h => implClassOf (some ⟨g, 0, none⟩) c L ⟨0, 0, [], x, y, z, 0, u, 0, 0, ⟨#[]⟩⟩ none 0 w (by omega) (by simp) (by simp) h (IntsAt.nil _ _)
  have HX : Hid (idleV L = if rusOk L = true then idleK L L.length else []) := rfl
  have hXr := idleV_rise L
  have hXl : (idleV L).length ≤ 6 := by have h1 := idleK_len L L.length; unfold idleV; split; omega; simp
  generalize idleV L = X at KI KS HX hXr hXl
  have K13 := fun x1 x2 y1 y2 w h1 h2 => likeInts x1 x2 y1 y2 X w (by omega) h1 h2
  have K18 := fun x1 y1 w h1 => risesInts x1 y1 X w (by omega) hXr h1
  have KH := fun p c x w h => hasInts p c X x w (by omega) h
  have Xsh : Hid (∀ base w v, IRow base w v X → ∃ p c, v = .slice p X.length c ∧ IntsAt w p X) := fun base w v h => by obtain ⟨p, q, rfl⟩ := h.shape; exact ⟨p, q, rfl, h.ints⟩
  obtain ⟨n, hn⟩ : ∃ n, L.length = n := ⟨_, rfl⟩
  have Hn : Hid (L.length = n) := hn
  obtain ⟨xl, hxl⟩ : ∃ xl, X.length = xl := ⟨_, rfl⟩
  have Hxl : Hid (X.length = xl) := hxl
  obtain ⟨ro, hro⟩ : ∃ ro, rusOk L = ro := ⟨_, rfl⟩
  have Hro : Hid (rusOk L = ro) := hro
  rw [hro] at KR
  simp only [Fr.val, hn, List.length_nil] at KI KS KR KC hL hLc ⊢
  simp only [hxl] at K13 K18 KH Xsh hXl
  clear hn hxl hro hXr
  have KI' : Hid _ := KI
  have KS' : Hid _ := KS
  have KR' : Hid _ := KR
  have KC' : Hid _ := KC
  have K13' : Hid _ := K13
  have K18' : Hid _ := K18
  have KH' : Hid _ := KH
  clear KI KS KR KC K13 K18 KH
  go_wp2_with fail
  refine (KI'.out _ H1.out.1).mono ?_
  rintro e w2 ⟨⟨v, rfl, hr⟩, q⟩
  obtain ⟨p, pc, rfl, hi⟩ := Xsh.out _ _ _ hr
  have S2 : Hid (IlS w g L p X w2) := ⟨H1.out.2.trans (q.mono H1.out.2.size), H1.out.1.below q, hi⟩
  clear hr hi q H1 KI'
  go_wp2_with fail
  refine (drawWider hc _ S2.out.bel).mono ?_
  rintro e w3 ⟨⟨ra, rb, rfl⟩, q⟩
  have S3 : Hid (IlS w g L p X w3) := S2.out.below q
  clear q S2
  have KW := fun w => implWider ra rb w
  have KV := fun w => specWider ra rb w
  have KA := fun f a1 c1 w hT hi => implMatches ra f a1 c1 w hT hi
  have KB := fun f a1 c1 w hT hi => implMatches rb f a1 c1 w hT hi
  have HW : Hid (∀ f, widerV ra rb = true → matchV rb f = true → matchV ra f = true) := fun f => wide_match ra rb f
  generalize widerV ra rb = wv at KW KV HW
  simp only [Ru.val] at KW KV KA KB ⊢
  have KW' : Hid _ := KW
  have KV' : Hid _ := KV
  clear KW KV
  go_wp2_with fail
  have S4 : Hid (IlS w g L p X ((w3.alloc (.cells #[.int .i64 ra.id, .int .i64 ra.prio, .int .i64 ra.snet, .int .i64 ra.sbits, .int .i64 ra.dnet, .int .i64 ra.dbits, .int .i64 ra.proto, .int .i64 ra.low, .int .i64 ra.high, .int .i64 ra.cls] 32)).alloc (.cells #[.int .i64 rb.id, .int .i64 rb.prio, .int .i64 rb.snet, .int .i64 rb.sbits, .int .i64 rb.dnet, .int .i64 rb.dbits, .int .i64 rb.proto, .int .i64 rb.low, .int .i64 rb.high, .int .i64 rb.cls] 32)) ∧ Boxed ((w3.alloc (.cells #[.int .i64 ra.id, .int .i64 ra.prio, .int .i64 ra.snet, .int .i64 ra.sbits, .int .i64 ra.dnet, .int .i64 ra.dbits, .int .i64 ra.proto, .int .i64 ra.low, .int .i64 ra.high, .int .i64 ra.cls] 32)).alloc (.cells #[.int .i64 rb.id, .int .i64 rb.prio, .int .i64 rb.snet, .int .i64 rb.sbits, .int .i64 rb.dnet, .int .i64 rb.dbits, .int .i64 rb.proto, .int .i64 rb.low, .int .i64 rb.high, .int .i64 rb.cls] 32)) w3.heap.size #[.int .i64 ra.id, .int .i64 ra.prio, .int .i64 ra.snet, .int .i64 ra.sbits, .int .i64 ra.dnet, .int .i64 ra.dbits, .int .i64 ra.proto, .int .i64 ra.low, .int .i64 ra.high, .int .i64 ra.cls] 32 ∧ Boxed ((w3.alloc (.cells #[.int .i64 ra.id, .int .i64 ra.prio, .int .i64 ra.snet, .int .i64 ra.sbits, .int .i64 ra.dnet, .int .i64 ra.dbits, .int .i64 ra.proto, .int .i64 ra.low, .int .i64 ra.high, .int .i64 ra.cls] 32)).alloc (.cells #[.int .i64 rb.id, .int .i64 rb.prio, .int .i64 rb.snet, .int .i64 rb.sbits, .int .i64 rb.dnet, .int .i64 rb.dbits, .int .i64 rb.proto, .int .i64 rb.low, .int .i64 rb.high, .int .i64 rb.cls] 32)) (w3.heap.size + 1) #[.int .i64 rb.id, .int .i64 rb.prio, .int .i64 rb.snet, .int .i64 rb.sbits, .int .i64 rb.dnet, .int .i64 rb.dbits, .int .i64 rb.proto, .int .i64 rb.low, .int .i64 rb.high, .int .i64 rb.cls] 32) :=
    ⟨S3.out.below (((Below.refl _ w3).alloc (Nat.le_refl _) _).alloc (by simp) _), (Boxed.new _ _ _).more _, by have := Boxed.new (w3.alloc (.cells #[.int .i64 ra.id, .int .i64 ra.prio, .int .i64 ra.snet, .int .i64 ra.sbits, .int .i64 ra.dnet, .int .i64 ra.dbits, .int .i64 ra.proto, .int .i64 ra.low, .int .i64 ra.high, .int .i64 ra.cls] 32)) #[.int .i64 rb.id, .int .i64 rb.prio, .int .i64 rb.snet, .int .i64 rb.sbits, .int .i64 rb.dnet, .int .i64 rb.dbits, .int .i64 rb.proto, .int .i64 rb.low, .int .i64 rb.high, .int .i64 rb.cls] 32; simpa using this⟩
  generalize w3.heap.size = B5 at S4 ⊢
  generalize (w3.alloc (.cells #[.int .i64 ra.id, .int .i64 ra.prio, .int .i64 ra.snet, .int .i64 ra.sbits, .int .i64 ra.dnet, .int .i64 ra.dbits, .int .i64 ra.proto, .int .i64 ra.low, .int .i64 ra.high, .int .i64 ra.cls] 32)).alloc (.cells #[.int .i64 rb.id, .int .i64 rb.prio, .int .i64 rb.snet, .int .i64 rb.sbits, .int .i64 rb.dnet, .int .i64 rb.dbits, .int .i64 rb.proto, .int .i64 rb.low, .int .i64 rb.high, .int .i64 rb.cls] 32) = w4 at S4 ⊢
  clear S3
  refine (KW'.out _).mono ?_
  rintro e w5 ⟨rfl, q⟩
  have S5 : Hid (IlS w g L p X w5 ∧ Boxed w5 B5 #[.int .i64 ra.id, .int .i64 ra.prio, .int .i64 ra.snet, .int .i64 ra.sbits, .int .i64 ra.dnet, .int .i64 ra.dbits, .int .i64 ra.proto, .int .i64 ra.low, .int .i64 ra.high, .int .i64 ra.cls] 32 ∧ Boxed w5 (B5 + 1) #[.int .i64 rb.id, .int .i64 rb.prio, .int .i64 rb.snet, .int .i64 rb.sbits, .int .i64 rb.dnet, .int .i64 rb.dbits, .int .i64 rb.proto, .int .i64 rb.low, .int .i64 rb.high, .int .i64 rb.cls] 32) := ⟨S4.out.1.below q, S4.out.2.1.below S4.out.2.1.under q, S4.out.2.2.below S4.out.2.2.under q⟩
  clear q S4 KW'
  go_wp2_with fail
  refine (drawClassOf hc _ S5.out.1.bel).mono ?_
  rintro e w6 ⟨⟨g2, c2, L2, f, a1, c1, rfl, hL2, hLc2, rL2, hT1, hB1, i1⟩, q⟩
  have S6 : Hid (IlS w g L p X w6 ∧ Boxed w6 B5 #[.int .i64 ra.id, .int .i64 ra.prio, .int .i64 ra.snet, .int .i64 ra.sbits, .int .i64 ra.dnet, .int .i64 ra.dbits, .int .i64 ra.proto, .int .i64 ra.low, .int .i64 ra.high, .int .i64 ra.cls] 32 ∧ Boxed w6 (B5 + 1) #[.int .i64 rb.id, .int .i64 rb.prio, .int .i64 rb.snet, .int .i64 rb.sbits, .int .i64 rb.dnet, .int .i64 rb.dbits, .int .i64 rb.proto, .int .i64 rb.low, .int .i64 rb.high, .int .i64 rb.cls] 32 ∧ IntsAt w6 a1 f.tags) := ⟨S5.out.1.below q, S5.out.2.1.below S5.out.2.1.under q, S5.out.2.2.below S5.out.2.2.under q, i1⟩
  clear q S5 i1 rL2 hL2 hLc2 hB1
  have KA2 := fun w hi => KA f a1 c1 w (by omega) hi
  have KB2 := fun w hi => KB f a1 c1 w (by omega) hi
  have HW2 := HW.out f
  generalize matchV ra f = ma at KA2 HW2
  generalize matchV rb f = mb at KB2 HW2
  generalize L2.length = n2
  obtain ⟨e0, e1, t1, e3, e4, e5, e6, e7, e8, e9, eb⟩ := f
  obtain ⟨n1, hn1⟩ : ∃ n1, t1.length = n1 := ⟨_, rfl⟩
  simp only [Fr.val, hn1] at KA2 KB2 S6 hT1 ⊢
  clear hn1 KA KB HW
  have KA' : Hid _ := KA2
  have KB' : Hid _ := KB2
  clear KA2 KB2
  go_wp2_with fail
  have S7 : Hid (IlT w g L p X B5 #[.int .i64 ra.id, .int .i64 ra.prio, .int .i64 ra.snet, .int .i64 ra.sbits, .int .i64 ra.dnet, .int .i64 ra.dbits, .int .i64 ra.proto, .int .i64 ra.low, .int .i64 ra.high, .int .i64 ra.cls] #[.int .i64 rb.id, .int .i64 rb.prio, .int .i64 rb.snet, .int .i64 rb.sbits, .int .i64 rb.dnet, .int .i64 rb.dbits, .int .i64 rb.proto, .int .i64 rb.low, .int .i64 rb.high, .int .i64 rb.cls] w6.heap.size #[.int .i64 e0, .int .i64 e1, .slice a1 n1 c1, .int .i64 e3, .int .i64 e4, .int .i64 e5, .int .i64 e6, .int .i64 e7, .int .i64 e8, .int .i64 e9, .string eb] a1 t1 (w6.alloc (.cells #[.int .i64 e0, .int .i64 e1, .slice a1 n1 c1, .int .i64 e3, .int .i64 e4, .int .i64 e5, .int .i64 e6, .int .i64 e7, .int .i64 e8, .int .i64 e9, .string eb] 27))) := ⟨S6.out.1.below ((Below.refl _ w6).alloc (Nat.le_refl _) _), S6.out.2.1.more _, S6.out.2.2.1.more _, Boxed.new _ _ _, S6.out.2.2.2.alloc _⟩
  generalize w6.heap.size = B9 at S7 ⊢
  generalize w6.alloc (.cells #[.int .i64 e0, .int .i64 e1, .slice a1 n1 c1, .int .i64 e3, .int .i64 e4, .int .i64 e5, .int .i64 e6, .int .i64 e7, .int .i64 e8, .int .i64 e9, .string eb] 27) = w7 at S7 ⊢
  clear S6
  refine (KS'.out _ S7.out.s.rus).mono ?_
  rintro e w8 ⟨⟨v, rfl, hr⟩, q⟩
  obtain ⟨p2, pc2, rfl, hi⟩ := Xsh.out _ _ _ hr
  have S8 : Hid (IlT w g L p X B5 #[.int .i64 ra.id, .int .i64 ra.prio, .int .i64 ra.snet, .int .i64 ra.sbits, .int .i64 ra.dnet, .int .i64 ra.dbits, .int .i64 ra.proto, .int .i64 ra.low, .int .i64 ra.high, .int .i64 ra.cls] #[.int .i64 rb.id, .int .i64 rb.prio, .int .i64 rb.snet, .int .i64 rb.sbits, .int .i64 rb.dnet, .int .i64 rb.dbits, .int .i64 rb.proto, .int .i64 rb.low, .int .i64 rb.high, .int .i64 rb.cls] B9 #[.int .i64 e0, .int .i64 e1, .slice a1 n1 c1, .int .i64 e3, .int .i64 e4, .int .i64 e5, .int .i64 e6, .int .i64 e7, .int .i64 e8, .int .i64 e9, .string eb] a1 t1 w8 ∧ IntsAt w8 p2 X) := ⟨S7.out.below q, hi⟩
  clear hr hi q S7 KS'
  go_wp2_with fail
  refine (K13'.out p p2 pc pc2 _ S8.out.1.s.ids S8.out.2).mono ?_
  rintro e w9 ⟨rfl, q⟩
  have S9 : Hid (IlT w g L p X B5 #[.int .i64 ra.id, .int .i64 ra.prio, .int .i64 ra.snet, .int .i64 ra.sbits, .int .i64 ra.dnet, .int .i64 ra.dbits, .int .i64 ra.proto, .int .i64 ra.low, .int .i64 ra.high, .int .i64 ra.cls] #[.int .i64 rb.id, .int .i64 rb.prio, .int .i64 rb.snet, .int .i64 rb.sbits, .int .i64 rb.dnet, .int .i64 rb.dbits, .int .i64 rb.proto, .int .i64 rb.low, .int .i64 rb.high, .int .i64 rb.cls] B9 #[.int .i64 e0, .int .i64 e1, .slice a1 n1 c1, .int .i64 e3, .int .i64 e4, .int .i64 e5, .int .i64 e6, .int .i64 e7, .int .i64 e8, .int .i64 e9, .string eb] a1 t1 w9) := S8.out.1.below q
  clear q S8 K13'
  have x0 : w9.cell? ⟨B5, 0, none⟩ = some (.int .i64 ra.id) := S9.out.ba.cell 0 rfl
  have x1 : w9.cell? ⟨B5, 1, none⟩ = some (.int .i64 ra.prio) := S9.out.ba.cell 1 rfl
  have x2 : w9.cell? ⟨B5, 2, none⟩ = some (.int .i64 ra.snet) := S9.out.ba.cell 2 rfl
  have x3 : w9.cell? ⟨B5, 3, none⟩ = some (.int .i64 ra.sbits) := S9.out.ba.cell 3 rfl
  have x4 : w9.cell? ⟨B5, 4, none⟩ = some (.int .i64 ra.dnet) := S9.out.ba.cell 4 rfl
  have x5 : w9.cell? ⟨B5, 5, none⟩ = some (.int .i64 ra.dbits) := S9.out.ba.cell 5 rfl
  have x6 : w9.cell? ⟨B5, 6, none⟩ = some (.int .i64 ra.proto) := S9.out.ba.cell 6 rfl
  have x7 : w9.cell? ⟨B5, 7, none⟩ = some (.int .i64 ra.low) := S9.out.ba.cell 7 rfl
  have x8 : w9.cell? ⟨B5, 8, none⟩ = some (.int .i64 ra.high) := S9.out.ba.cell 8 rfl
  have x9 : w9.cell? ⟨B5, 9, none⟩ = some (.int .i64 ra.cls) := S9.out.ba.cell 9 rfl
  have y0 : w9.cell? ⟨B5 + 1, 0, none⟩ = some (.int .i64 rb.id) := S9.out.bb.cell 0 rfl
  have y1 : w9.cell? ⟨B5 + 1, 1, none⟩ = some (.int .i64 rb.prio) := S9.out.bb.cell 1 rfl
  have y2 : w9.cell? ⟨B5 + 1, 2, none⟩ = some (.int .i64 rb.snet) := S9.out.bb.cell 2 rfl
  have y3 : w9.cell? ⟨B5 + 1, 3, none⟩ = some (.int .i64 rb.sbits) := S9.out.bb.cell 3 rfl
  have y4 : w9.cell? ⟨B5 + 1, 4, none⟩ = some (.int .i64 rb.dnet) := S9.out.bb.cell 4 rfl
  have y5 : w9.cell? ⟨B5 + 1, 5, none⟩ = some (.int .i64 rb.dbits) := S9.out.bb.cell 5 rfl
  have y6 : w9.cell? ⟨B5 + 1, 6, none⟩ = some (.int .i64 rb.proto) := S9.out.bb.cell 6 rfl
  have y7 : w9.cell? ⟨B5 + 1, 7, none⟩ = some (.int .i64 rb.low) := S9.out.bb.cell 7 rfl
  have y8 : w9.cell? ⟨B5 + 1, 8, none⟩ = some (.int .i64 rb.high) := S9.out.bb.cell 8 rfl
  have y9 : w9.cell? ⟨B5 + 1, 9, none⟩ = some (.int .i64 rb.cls) := S9.out.bb.cell 9 rfl
  go_wp2_with fail
  refine (KV'.out _).mono ?_
  rintro e w10 ⟨rfl, q⟩
  have S10 : Hid (IlT w g L p X B5 #[.int .i64 ra.id, .int .i64 ra.prio, .int .i64 ra.snet, .int .i64 ra.sbits, .int .i64 ra.dnet, .int .i64 ra.dbits, .int .i64 ra.proto, .int .i64 ra.low, .int .i64 ra.high, .int .i64 ra.cls] #[.int .i64 rb.id, .int .i64 rb.prio, .int .i64 rb.snet, .int .i64 rb.sbits, .int .i64 rb.dnet, .int .i64 rb.dbits, .int .i64 rb.proto, .int .i64 rb.low, .int .i64 rb.high, .int .i64 rb.cls] B9 #[.int .i64 e0, .int .i64 e1, .slice a1 n1 c1, .int .i64 e3, .int .i64 e4, .int .i64 e5, .int .i64 e6, .int .i64 e7, .int .i64 e8, .int .i64 e9, .string eb] a1 t1 w10) := S9.out.below q
  clear q S9 KV' x0 y0 x1 y1 x2 y2 x3 y3 x4 y4 x5 y5 x6 y6 x7 y7 x8 y8 x9 y9
  go_wp2_with fail
  refine (K18'.out p pc _ S10.out.s.ids).mono ?_
  rintro e w11 ⟨rfl, q⟩
  have S11 : Hid (IlT w g L p X B5 #[.int .i64 ra.id, .int .i64 ra.prio, .int .i64 ra.snet, .int .i64 ra.sbits, .int .i64 ra.dnet, .int .i64 ra.dbits, .int .i64 ra.proto, .int .i64 ra.low, .int .i64 ra.high, .int .i64 ra.cls] #[.int .i64 rb.id, .int .i64 rb.prio, .int .i64 rb.snet, .int .i64 rb.sbits, .int .i64 rb.dnet, .int .i64 rb.dbits, .int .i64 rb.proto, .int .i64 rb.low, .int .i64 rb.high, .int .i64 rb.cls] B9 #[.int .i64 e0, .int .i64 e1, .slice a1 n1 c1, .int .i64 e3, .int .i64 e4, .int .i64 e5, .int .i64 e6, .int .i64 e7, .int .i64 e8, .int .i64 e9, .string eb] a1 t1 w11) := S10.out.below q
  clear q S10 K18'
  go_upto_region 10 with fail
  go_cut [61] (fun s wc => Hid (s = .bool false ∧ IlS w g L p X wc))
  case first =>
    cases wv
    · go_wp2_with fail
      go_meet
      exact ⟨rfl, S11.out.s⟩
    · have HW3 := HW2 rfl
      have y0 : w11.cell? ⟨B5 + 1, 0, none⟩ = some (.int .i64 rb.id) := S11.out.bb.cell 0 rfl
      have y1 : w11.cell? ⟨B5 + 1, 1, none⟩ = some (.int .i64 rb.prio) := S11.out.bb.cell 1 rfl
      have y2 : w11.cell? ⟨B5 + 1, 2, none⟩ = some (.int .i64 rb.snet) := S11.out.bb.cell 2 rfl
      have y3 : w11.cell? ⟨B5 + 1, 3, none⟩ = some (.int .i64 rb.sbits) := S11.out.bb.cell 3 rfl
      have y4 : w11.cell? ⟨B5 + 1, 4, none⟩ = some (.int .i64 rb.dnet) := S11.out.bb.cell 4 rfl
      have y5 : w11.cell? ⟨B5 + 1, 5, none⟩ = some (.int .i64 rb.dbits) := S11.out.bb.cell 5 rfl
      have y6 : w11.cell? ⟨B5 + 1, 6, none⟩ = some (.int .i64 rb.proto) := S11.out.bb.cell 6 rfl
      have y7 : w11.cell? ⟨B5 + 1, 7, none⟩ = some (.int .i64 rb.low) := S11.out.bb.cell 7 rfl
      have y8 : w11.cell? ⟨B5 + 1, 8, none⟩ = some (.int .i64 rb.high) := S11.out.bb.cell 8 rfl
      have y9 : w11.cell? ⟨B5 + 1, 9, none⟩ = some (.int .i64 rb.cls) := S11.out.bb.cell 9 rfl
      have z0 : w11.cell? ⟨B9, 0, none⟩ = some (.int .i64 e0) := S11.out.bf.cell 0 rfl
      have z1 : w11.cell? ⟨B9, 1, none⟩ = some (.int .i64 e1) := S11.out.bf.cell 1 rfl
      have z2 : w11.cell? ⟨B9, 2, none⟩ = some (.slice a1 n1 c1) := S11.out.bf.cell 2 rfl
      have z3 : w11.cell? ⟨B9, 3, none⟩ = some (.int .i64 e3) := S11.out.bf.cell 3 rfl
      have z4 : w11.cell? ⟨B9, 4, none⟩ = some (.int .i64 e4) := S11.out.bf.cell 4 rfl
      have z5 : w11.cell? ⟨B9, 5, none⟩ = some (.int .i64 e5) := S11.out.bf.cell 5 rfl
      have z6 : w11.cell? ⟨B9, 6, none⟩ = some (.int .i64 e6) := S11.out.bf.cell 6 rfl
      have z7 : w11.cell? ⟨B9, 7, none⟩ = some (.int .i64 e7) := S11.out.bf.cell 7 rfl
      have z8 : w11.cell? ⟨B9, 8, none⟩ = some (.int .i64 e8) := S11.out.bf.cell 8 rfl
      have z9 : w11.cell? ⟨B9, 9, none⟩ = some (.int .i64 e9) := S11.out.bf.cell 9 rfl
      have z10 : w11.cell? ⟨B9, 10, none⟩ = some (.string eb) := S11.out.bf.cell 10 rfl
      go_wp2_with fail
      refine (KB'.out _ S11.out.ints).mono ?_
      rintro e w12 ⟨rfl, q⟩
      have S12 : Hid (IlT w g L p X B5 #[.int .i64 ra.id, .int .i64 ra.prio, .int .i64 ra.snet, .int .i64 ra.sbits, .int .i64 ra.dnet, .int .i64 ra.dbits, .int .i64 ra.proto, .int .i64 ra.low, .int .i64 ra.high, .int .i64 ra.cls] #[.int .i64 rb.id, .int .i64 rb.prio, .int .i64 rb.snet, .int .i64 rb.sbits, .int .i64 rb.dnet, .int .i64 rb.dbits, .int .i64 rb.proto, .int .i64 rb.low, .int .i64 rb.high, .int .i64 rb.cls] B9 #[.int .i64 e0, .int .i64 e1, .slice a1 n1 c1, .int .i64 e3, .int .i64 e4, .int .i64 e5, .int .i64 e6, .int .i64 e7, .int .i64 e8, .int .i64 e9, .string eb] a1 t1 w12) := S11.out.below q
      clear q S11 y0 y1 y2 y3 y4 y5 y6 y7 y8 y9 z0 z1 z2 z3 z4 z5 z6 z7 z8 z9 z10
      cases mb
      · go_wp2_with fail
        go_meet
        exact ⟨rfl, S12.out.s⟩
      · obtain rfl : ma = true := HW3 rfl
        have y0 : w12.cell? ⟨B5, 0, none⟩ = some (.int .i64 ra.id) := S12.out.ba.cell 0 rfl
        have y1 : w12.cell? ⟨B5, 1, none⟩ = some (.int .i64 ra.prio) := S12.out.ba.cell 1 rfl
        have y2 : w12.cell? ⟨B5, 2, none⟩ = some (.int .i64 ra.snet) := S12.out.ba.cell 2 rfl
        have y3 : w12.cell? ⟨B5, 3, none⟩ = some (.int .i64 ra.sbits) := S12.out.ba.cell 3 rfl
        have y4 : w12.cell? ⟨B5, 4, none⟩ = some (.int .i64 ra.dnet) := S12.out.ba.cell 4 rfl
        have y5 : w12.cell? ⟨B5, 5, none⟩ = some (.int .i64 ra.dbits) := S12.out.ba.cell 5 rfl
        have y6 : w12.cell? ⟨B5, 6, none⟩ = some (.int .i64 ra.proto) := S12.out.ba.cell 6 rfl
        have y7 : w12.cell? ⟨B5, 7, none⟩ = some (.int .i64 ra.low) := S12.out.ba.cell 7 rfl
        have y8 : w12.cell? ⟨B5, 8, none⟩ = some (.int .i64 ra.high) := S12.out.ba.cell 8 rfl
        have y9 : w12.cell? ⟨B5, 9, none⟩ = some (.int .i64 ra.cls) := S12.out.ba.cell 9 rfl
        have z0 : w12.cell? ⟨B9, 0, none⟩ = some (.int .i64 e0) := S12.out.bf.cell 0 rfl
        have z1 : w12.cell? ⟨B9, 1, none⟩ = some (.int .i64 e1) := S12.out.bf.cell 1 rfl
        have z2 : w12.cell? ⟨B9, 2, none⟩ = some (.slice a1 n1 c1) := S12.out.bf.cell 2 rfl
        have z3 : w12.cell? ⟨B9, 3, none⟩ = some (.int .i64 e3) := S12.out.bf.cell 3 rfl
        have z4 : w12.cell? ⟨B9, 4, none⟩ = some (.int .i64 e4) := S12.out.bf.cell 4 rfl
        have z5 : w12.cell? ⟨B9, 5, none⟩ = some (.int .i64 e5) := S12.out.bf.cell 5 rfl
        have z6 : w12.cell? ⟨B9, 6, none⟩ = some (.int .i64 e6) := S12.out.bf.cell 6 rfl
        have z7 : w12.cell? ⟨B9, 7, none⟩ = some (.int .i64 e7) := S12.out.bf.cell 7 rfl
        have z8 : w12.cell? ⟨B9, 8, none⟩ = some (.int .i64 e8) := S12.out.bf.cell 8 rfl
        have z9 : w12.cell? ⟨B9, 9, none⟩ = some (.int .i64 e9) := S12.out.bf.cell 9 rfl
        have z10 : w12.cell? ⟨B9, 10, none⟩ = some (.string eb) := S12.out.bf.cell 10 rfl
        go_wp2_with fail
        refine (KA'.out _ S12.out.ints).mono ?_
        rintro e w13 ⟨rfl, q⟩
        have S13 : Hid (IlS w g L p X w13) := S12.out.s.below q
        clear q S12 y0 y1 y2 y3 y4 y5 y6 y7 y8 y9 z0 z1 z2 z3 z4 z5 z6 z7 z8 z9 z10
        go_wp2_with fail
        go_meet
        exact ⟨rfl, S13.out⟩
  case rest =>
  obtain ⟨rfl, hx⟩ := hcut.out
  have S14 : Hid (IlS w g L p X wc) := hx
  clear hcut hx S11 KA' KB' HW2
  go_wp2_with fail
  refine (KR'.out _ S14.out.rus).mono ?_
  rintro e wb ⟨rfl, q⟩
  have SB : Hid (IlS w g L p X wb) := S14.out.below q
  clear q S14 KR'
  cases ro
  · have hx0 : xl = 0 := by
      have h := HX.out
      rw [Hro.out, if_neg (by decide)] at h
      rw [← Hxl.out, h]
      rfl
    subst hx0
    go_wp2
    go_ret
    exact ⟨rfl, SB.out.bel⟩
  have HX2 : Hid (X = idleK L L.length) := by
    have h := HX.out
    rw [Hro.out, if_pos rfl] at h
    exact h
  clear HX
  go_wp2_with fail
  go_loopw [10, 11] (fun less i wr => ∃ (k m gl cl : Nat), k ≤ n ∧ m ≤ k ∧ less = .slice (some ⟨gl, 0, none⟩) m cl ∧ i = .int .i64 k ∧ Hid ((lessL (L.take k) X).length = m) ∧ Hid (RuRow wb.heap.size wr (.slice (some ⟨gl, 0, none⟩) m cl) (lessL (L.take k) X) ∧ Below wb.heap.size wb wr)) (fun _ i _ => n - (intOf i).toNat)
  case atStart => exact ⟨0, 0, _, 0, Nat.zero_le _, Nat.zero_le _, rfl, rfl, rfl, ru_built wb _ (Nat.le_refl _), (Below.refl _ _).alloc (Nat.le_refl _) _⟩
  case round =>
    obtain ⟨k, m, gl, cl, hk, hm, rfl, rfl, Hm, HR⟩ := hrel
    by_cases hlt : k < n
    · have hlt' : (k : Int) < (n : Int) := by omega
      have SR : Hid (IlS w g L p X wr) := SB.out.below HR.out.2
      have Hst := lessL_step L X (k := k) (by rw [Hn.out]; exact hlt)
      have f0 := (SR.out.rus.cells (k := k) (by rw [Hn.out]; exact hlt)).1
      have f1 := (SR.out.rus.cells (k := k) (by rw [Hn.out]; exact hlt)).2.1
      have f2 := (SR.out.rus.cells (k := k) (by rw [Hn.out]; exact hlt)).2.2.1
      have f3 := (SR.out.rus.cells (k := k) (by rw [Hn.out]; exact hlt)).2.2.2.1
      have f4 := (SR.out.rus.cells (k := k) (by rw [Hn.out]; exact hlt)).2.2.2.2.1
      have f5 := (SR.out.rus.cells (k := k) (by rw [Hn.out]; exact hlt)).2.2.2.2.2.1
      have f6 := (SR.out.rus.cells (k := k) (by rw [Hn.out]; exact hlt)).2.2.2.2.2.2.1
      have f7 := (SR.out.rus.cells (k := k) (by rw [Hn.out]; exact hlt)).2.2.2.2.2.2.2.1
      have f8 := (SR.out.rus.cells (k := k) (by rw [Hn.out]; exact hlt)).2.2.2.2.2.2.2.2.1
      have f9 := (SR.out.rus.cells (k := k) (by rw [Hn.out]; exact hlt)).2.2.2.2.2.2.2.2.2
      simp only [Nat.zero_add] at f0 f1 f2 f3 f4 f5 f6 f7 f8 f9
      generalize ruAt L k = r at f0 f1 f2 f3 f4 f5 f6 f7 f8 f9 Hst
      have KH2 := KH'.out p pc r.id wr SR.out.ids
      by_cases hin : r.id ∈ X
      · rw [decide_eq_true hin] at KH2
        rw [if_pos hin, List.append_nil] at Hst
        have Hs : Hid (lessL (L.take (k + 1)) X = lessL (L.take k) X) := Hst
        have KH3 : Hid _ := fun (_ : Unit) => KH2
        clear Hst KH2 hin
        go_wp2_with fail
        refine (KH3.out ()).mono ?_
        rintro e wq ⟨rfl, hw⟩
        have hw := hw.symm
        subst hw
        clear f0 f1 f2 f3 f4 f5 f6 f7 f8 f9 SR KH3
        go_wp2
        go_roundw
        case rel => exact ⟨k + 1, m, gl, cl, by omega, by omega, rfl, by go_num, by show (lessL (L.take (k + 1)) X).length = m; rw [Hs.out]; exact Hm.out, by show RuRow _ _ _ (lessL (L.take (k + 1)) X) ∧ _; rw [Hs.out]; exact HR.out⟩
        case measure => simp [intOf]; omega
      · rw [decide_eq_false hin] at KH2
        rw [if_neg hin] at Hst
        have Hs : Hid (lessL (L.take (k + 1)) X = lessL (L.take k) X ++ [r]) := Hst
        have KH3 : Hid _ := fun (_ : Unit) => KH2
        clear Hst KH2 hin
        go_wp2_with fail
        refine (KH3.out ()).mono ?_
        rintro e wq ⟨rfl, hw⟩
        have hw := hw.symm
        subst hw
        clear SR KH3
        have hbs := HR.out.2.size
        have HM : Hid (RusAt (wr.alloc (.cells #[.int .i64 r.id, .int .i64 r.prio, .int .i64 r.snet, .int .i64 r.sbits, .int .i64 r.dnet, .int .i64 r.dbits, .int .i64 r.proto, .int .i64 r.low, .int .i64 r.high, .int .i64 r.cls] 32)) (some ⟨wr.heap.size, 0, none⟩) [r]) := rus_new wr [r] _ _ rfl rfl
        have HRW : Hid (RuRow wb.heap.size (wr.alloc (.cells #[.int .i64 r.id, .int .i64 r.prio, .int .i64 r.snet, .int .i64 r.sbits, .int .i64 r.dnet, .int .i64 r.dbits, .int .i64 r.proto, .int .i64 r.low, .int .i64 r.high, .int .i64 r.cls] 32)) (.slice (some ⟨gl, 0, none⟩) m cl) (lessL (L.take k) X)) := HR.out.1.alloc _
        have hlm : (lessL (L.take k) X).length ≤ 6 := by rw [Hm.out]; omega
        go_wp2_with (at_builtin; refine ru_app rfl (.tmp 83) (.tmp 88) rfl wb.heap.size _ (lessL (L.take k) X) _ 1 _ [r] rfl rfl rfl HRW.out HM.out (by simp) (by simp; omega) (by simp; omega) ?_)
        intro v2 w2 r2 b2 gr2 n2
        clear gr2
        obtain ⟨g2', c2', hv2⟩ := r2.some (fun e => by have := n2 e; cases this)
        have hl2 : (lessL (L.take k) X ++ [r]).length = m + 1 := by rw [List.length_append, Hm.out]; rfl
        rw [hl2] at hv2
        have HQ : Hid (RuRow wb.heap.size w2 v2 (lessL (L.take k) X ++ [r]) ∧ Below wb.heap.size wb w2) := ⟨r2, HR.out.2.trans (((Below.refl _ wr).alloc hbs _).trans b2)⟩
        subst hv2
        clear r2 b2 n2 HM HRW HR f0 f1 f2 f3 f4 f5 f6 f7 f8 f9
        go_wp2
        go_roundw
        case rel => exact ⟨k + 1, m + 1, g2', c2', by omega, by omega, rfl, by go_num, by show (lessL (L.take (k + 1)) X).length = m + 1; rw [Hs.out]; exact hl2, by show RuRow _ _ _ (lessL (L.take (k + 1)) X) ∧ _; rw [Hs.out]; exact HQ.out⟩
        case measure => simp [intOf]; omega
    · obtain rfl : k = n := by omega
      have htk : L.take k = L := by rw [← Hn.out]; exact List.take_length
      rw [htk] at Hm HR
      have HRr : Hid (rusOk (lessL L X) = true) := rus_less Hro.out _
      have HCl : Hid (∀ f, classV (lessL L X) f = classV L f) := fun f => by rw [HX2.out]; exact idle_classV Hro.out f
      have H15 : Hid (IlS w g L p X wr ∧ RusAt wr (some ⟨gl, 0, none⟩) (lessL L X)) := ⟨SB.out.below HR.out.2, HR.out.1.at'⟩
      clear htk HR SB HX2
      generalize lessL L X = M at Hm HRr HCl H15
      have KM := fun (x y z u : Int) w h => implClassOf (some ⟨gl, 0, none⟩) cl M ⟨0, 0, [], x, y, z, 0, u, 0, 0, ⟨#[]⟩⟩ none 0 w (by rw [Hm.out]; omega) (by simp) (by simp) h (IntsAt.nil _ _)
      have KO := fun w h => implRules (some ⟨gl, 0, none⟩) cl M w (by rw [Hm.out]; omega) h
      rw [HRr.out] at KO
      simp only [Fr.val, Hm.out, List.length_nil, HCl.out] at KM KO
      have KM' : Hid _ := KM
      have KO' : Hid _ := KO
      clear KM KO HRr HCl
      go_wp2_with fail
      go_loopw [12] (fun i wx => ∃ (j : Nat), j ≤ 8 ∧ i = .int .i64 j ∧ Hid (IlS w g L p X wx ∧ RusAt wx (some ⟨gl, 0, none⟩) M)) (fun i _ => 8 - (intOf i).toNat)
      case atStart => exact ⟨0, Nat.zero_le _, rfl, H15⟩
      case round =>
        obtain ⟨j, hj, rfl, HJ⟩ := hrel
        clear H15
        by_cases hlt2 : j < 8
        · have hlt2' : (j : Int) < 8 := by omega
          go_upto_region 23 with fail
          go_cut [13] from 90 to 119 (fun s wc => Hid (∃ (B : Nat) (x y z u : Int), s = .pointer (some ⟨B, 0, none⟩) ∧ Boxed wc B #[.int .i64 0, .int .i64 0, .slice none 0 0, .int .i64 x, .int .i64 y, .int .i64 z, .int .i64 0, .int .i64 u, .int .i64 0, .int .i64 0, .string ⟨#[]⟩] 27 ∧ IlS w g L p X wc ∧ RusAt wc (some ⟨gl, 0, none⟩) M))
          case rest =>
            obtain ⟨B, x, y, z, u, rfl, bx, sx, rx⟩ := hcut.out
            have HC : Hid (Boxed wc B #[.int .i64 0, .int .i64 0, .slice none 0 0, .int .i64 x, .int .i64 y, .int .i64 z, .int .i64 0, .int .i64 u, .int .i64 0, .int .i64 0, .string ⟨#[]⟩] 27 ∧ IlS w g L p X wc ∧ RusAt wc (some ⟨gl, 0, none⟩) M) := ⟨bx, sx, rx⟩
            clear hcut bx sx rx HJ
            haveI : Nonempty (BelW wc.heap.size wc) := ⟨⟨wc, Below.refl _ _⟩⟩
            have HI1 : Hid (∀ q : BelW wc.heap.size wc, RusAt q.w' (some ⟨g, 0, none⟩) L) := fun q => HC.out.2.1.rus.below q.h
            have HI2 : Hid (∀ q : BelW wc.heap.size wc, RusAt q.w' (some ⟨gl, 0, none⟩) M) := fun q => HC.out.2.2.below q.h
            have h0 : ∀ q : BelW wc.heap.size wc, q.w'.cell? ⟨B, 0, none⟩ = some (.int .i64 0) := fun q => (HC.out.1.below HC.out.1.under q.h).cell 0 rfl
            have h1 : ∀ q : BelW wc.heap.size wc, q.w'.cell? ⟨B, 1, none⟩ = some (.int .i64 0) := fun q => (HC.out.1.below HC.out.1.under q.h).cell 1 rfl
            have h2 : ∀ q : BelW wc.heap.size wc, q.w'.cell? ⟨B, 2, none⟩ = some (.slice none 0 0) := fun q => (HC.out.1.below HC.out.1.under q.h).cell 2 rfl
            have h3 : ∀ q : BelW wc.heap.size wc, q.w'.cell? ⟨B, 3, none⟩ = some (.int .i64 x) := fun q => (HC.out.1.below HC.out.1.under q.h).cell 3 rfl
            have h4 : ∀ q : BelW wc.heap.size wc, q.w'.cell? ⟨B, 4, none⟩ = some (.int .i64 y) := fun q => (HC.out.1.below HC.out.1.under q.h).cell 4 rfl
            have h5 : ∀ q : BelW wc.heap.size wc, q.w'.cell? ⟨B, 5, none⟩ = some (.int .i64 z) := fun q => (HC.out.1.below HC.out.1.under q.h).cell 5 rfl
            have h6 : ∀ q : BelW wc.heap.size wc, q.w'.cell? ⟨B, 6, none⟩ = some (.int .i64 0) := fun q => (HC.out.1.below HC.out.1.under q.h).cell 6 rfl
            have h7 : ∀ q : BelW wc.heap.size wc, q.w'.cell? ⟨B, 7, none⟩ = some (.int .i64 u) := fun q => (HC.out.1.below HC.out.1.under q.h).cell 7 rfl
            have h8 : ∀ q : BelW wc.heap.size wc, q.w'.cell? ⟨B, 8, none⟩ = some (.int .i64 0) := fun q => (HC.out.1.below HC.out.1.under q.h).cell 8 rfl
            have h9 : ∀ q : BelW wc.heap.size wc, q.w'.cell? ⟨B, 9, none⟩ = some (.int .i64 0) := fun q => (HC.out.1.below HC.out.1.under q.h).cell 9 rfl
            have h10 : ∀ q : BelW wc.heap.size wc, q.w'.cell? ⟨B, 10, none⟩ = some (.string ⟨#[]⟩) := fun q => (HC.out.1.below HC.out.1.under q.h).cell 10 rfl
            have C1 := fun w h => KC'.out x y z u w h
            have C2 := fun w h => KM'.out x y z u w h
            generalize classV L ⟨0, 0, [], x, y, z, 0, u, 0, 0, ⟨#[]⟩⟩ = kv at C1 C2
            have C3 : Hid (∀ (q : BelW wc.heap.size wc) (gg nn cc : Nat), (gg = g ∧ nn = k ∧ cc = c) ∨ (gg = gl ∧ nn = m ∧ cc = cl) → Calls Try.prog 7 #[.slice (some ⟨gg, 0, none⟩) nn cc, .agg #[.int .i64 0, .int .i64 0, .slice none 0 0, .int .i64 x, .int .i64 y, .int .i64 z, .int .i64 0, .int .i64 u, .int .i64 0, .int .i64 0, .string ⟨#[]⟩]] q.w' fun e w' => e = .returned (.int .i64 kv) ∧ Below q.w'.heap.size q.w' w') := by
              intro q gg nn cc hs
              rcases hs with ⟨rfl, rfl, rfl⟩ | ⟨rfl, rfl, rfl⟩
              · exact C1 _ (HI1.out q)
              · exact C2 _ (HI2.out q)
            clear C1 C2 HI1 HI2
            go_wp2_with fail
            refine region_below wc.heap.size (by kernel_rfl) (by kernel_rfl) ?_
            repeat (go_big_quiet_step ((go_at_call 7; refine quiet_below (Nat.le_refl _) (C3.out _ _ _ _ (by first | exact .inl ⟨rfl, rfl, rfl⟩ | exact .inr ⟨rfl, rfl, rfl⟩)))))
            refine wpQuiet_nil ?_
            intro wq hx
            have hq := BelW.out hx
            have HQ : Hid (IlS w g L p X wq ∧ RusAt wq (some ⟨gl, 0, none⟩) M) := ⟨HC.out.2.1.below hq, HC.out.2.2.below hq⟩
            clear hx hq h0 h1 h2 h3 h4 h5 h6 h7 h8 h9 h10 C3 HC
            go_wp2
            go_roundw
            case rel => exact ⟨j + 1, by omega, by go_num, HQ⟩
            case measure => simp [intOf]; omega
          refine region_draws (by kernel_rfl) (by kernel_rfl) (by kernel_rfl) (by kernel_rfl) (fun x => Below wr.heap.size wr x) (fun x y => Below x.heap.size x y) (ilPr (.slice a len cap) j wr.heap.size) ilPr_keep ?h0 ?step ?last
          case h0 => exact (Below.refl _ _).drew
          case step =>
            intro i o hi ho A x hk2 hI hp
            have t0 : A.tmps.getD 0 undef = .slice a len cap := hk2.slot 0 (by kernel_rfl)
            have t12 : A.tmps.getD 12 undef = .int .i64 j := hk2.slot 12 (by kernel_rfl)
            have hbw : Hid (Below w.heap.size w x) := HJ.out.1.bel.trans (hI.mono HJ.out.1.bel.size)
            have hcases : i = 0 ∨ i = 1 ∨ i = 2 ∨ i = 3 ∨ i = 4 ∨ i = 5 ∨ i = 6 ∨ i = 7 ∨ i = 8 ∨ i = 9 ∨ i = 10 ∨ i = 11 ∨ i = 12 ∨ i = 13 ∨ i = 14 ∨ i = 15 ∨ i = 16 ∨ i = 17 ∨ i = 18 ∨ i = 19 := by
              have : i + 1 < 21 := hi
              omega
            rcases hcases with rfl | rfl | rfl | rfl | rfl | rfl | rfl | rfl | rfl | rfl | rfl | rfl | rfl | rfl | rfl | rfl | rfl | rfl | rfl | rfl
            · cases ho
              exact ⟨rfl, op_move 0 rfl ⟨_, rfl, Below.refl _ _, hI, t0⟩⟩
            · cases ho
              exact ⟨rfl, op_move 12 rfl ⟨_, rfl, Below.refl _ _, hI, t12⟩⟩
            · cases ho
              have q0 : A.tmps[94]?.getD undef = .slice a len cap := by have h : A.tmps.getD 94 undef = .slice a len cap := hp ⟨0, .data⟩ 94 (by simp) rfl rfl; simpa using h
              have q1 : A.tmps[95]?.getD undef = .int .i64 (j : Int) := by have h : A.tmps.getD 95 undef = .int .i64 (j : Int) := hp ⟨1, .data⟩ 95 (by simp) rfl rfl; simpa using h
              refine ⟨rfl, op_callB (by simp [execOp, resolve, Deferred.ofValue, invoke, Act.eval, q0, q1]) (lawAddr (cap := cap) hc (j : Int) x hbw) ?_⟩
              rintro e y ⟨⟨v, rfl⟩, hw⟩
              have hw := hw.symm
              subst hw
              exact ⟨_, rfl, _, rfl, Below.refl _ _, hI, v, rfl⟩
            · cases ho
              exact ⟨rfl, op_move 0 rfl ⟨_, rfl, Below.refl _ _, hI, t0⟩⟩
            · cases ho
              exact ⟨rfl, op_move 12 rfl ⟨_, rfl, Below.refl _ _, hI, t12⟩⟩
            · cases ho
              have q4 : A.tmps[98]?.getD undef = .int .i64 (j : Int) := by have h : A.tmps.getD 98 undef = .int .i64 (j : Int) := hp ⟨4, .data⟩ 98 (by simp) rfl rfl; simpa using h
              refine ⟨rfl, ?_⟩
              unfold Oper.wp
              simp [go_sem, q4]
              exact ⟨_, rfl, Below.refl _ _, hI, _, rfl⟩
            · cases ho
              have q3 : A.tmps[97]?.getD undef = .slice a len cap := by have h : A.tmps.getD 97 undef = .slice a len cap := hp ⟨3, .data⟩ 97 (by simp) rfl rfl; simpa using h
              obtain ⟨s, es⟩ := hp ⟨5, .data⟩ 99 (by simp) rfl rfl
              have q5 : A.tmps[99]?.getD undef = .int .i64 s := by simpa using es
              refine ⟨rfl, op_callB (by simp [execOp, resolve, Deferred.ofValue, invoke, Act.eval, q3, q5]) (lawAddr (cap := cap) hc s x hbw) ?_⟩
              rintro e y ⟨⟨v, rfl⟩, hw⟩
              have hw := hw.symm
              subst hw
              exact ⟨_, rfl, _, rfl, Below.refl _ _, hI, v, rfl⟩
            · cases ho
              refine ⟨rfl, ?_⟩
              unfold Oper.wp
              simp [go_sem]
              exact ⟨_, rfl, (Below.refl _ _).alloc (Nat.le_refl _) _, hI.alloc hI.size _, _, rfl, Boxed.new x _ 2⟩
            · cases ho
              exact ⟨rfl, op_move 0 rfl ⟨_, rfl, Below.refl _ _, hI, t0⟩⟩
            · cases ho
              exact ⟨rfl, op_move 12 rfl ⟨_, rfl, Below.refl _ _, hI, t12⟩⟩
            · cases ho
              have q9 : A.tmps[103]?.getD undef = .int .i64 (j : Int) := by have h : A.tmps.getD 103 undef = .int .i64 (j : Int) := hp ⟨9, .data⟩ 103 (by simp) rfl rfl; simpa using h
              refine ⟨rfl, ?_⟩
              unfold Oper.wp
              simp [go_sem, q9]
              exact ⟨_, rfl, Below.refl _ _, hI, _, rfl, by first | omega | (rw [IntKind.wrap_i64]; omega), by first | omega | (rw [IntKind.wrap_i64]; omega)⟩
            · cases ho
              have q8 : A.tmps[102]?.getD undef = .slice a len cap := by have h : A.tmps.getD 102 undef = .slice a len cap := hp ⟨8, .data⟩ 102 (by simp) rfl rfl; simpa using h
              obtain ⟨s, es, s0, s1⟩ := hp ⟨10, .data⟩ 104 (by simp) rfl rfl
              have q10 : A.tmps[104]?.getD undef = .int .i64 s := by simpa using es
              refine ⟨rfl, op_callB (by simp [execOp, resolve, Deferred.ofValue, invoke, Act.eval, q8, q10]) (lawPickS (cap := cap) hc s 3 s0 s1 (by omega) (by omega) x hbw) ?_⟩
              rintro e y ⟨⟨v, rfl, v0, v1⟩, hw⟩
              have hw := hw.symm
              subst hw
              exact ⟨_, rfl, _, rfl, Below.refl _ _, hI, v, rfl, v0, v1⟩
            · cases ho
              obtain ⟨B, eB, hb⟩ := hp ⟨7, .data⟩ 101 (by simp) rfl rfl
              obtain ⟨y, ey, y0, y1⟩ := hp ⟨11, .data⟩ 105 (by simp) rfl rfl
              have hB' : A.tmps[101]?.getD undef = .slice (some ⟨B, 0, none⟩) 3 3 := by simpa using eB
              have hy' : A.tmps[105]?.getD undef = .int .i64 y := by simpa using ey
              have y1' : y < 3 := y1
              refine ⟨rfl, ?_⟩
              unfold Oper.wp
              simp [go_sem, hB', hy', y0, y1']
              exact ⟨_, rfl, Below.refl _ _, hI, B, y.toNat, rfl, by omega, hb⟩
            · cases ho
              obtain ⟨B, jj, eB, hjj, hb⟩ := hp ⟨12, .data⟩ 106 (by simp) rfl rfl
              have hB' : A.tmps[106]?.getD undef = .pointer (some ⟨B, jj, none⟩) := by simpa using eB
              obtain ⟨z, hz⟩ : ∃ z : Int, x.cell? ⟨B, jj, none⟩ = some (.int .i64 z) := by
                have hj3 : jj = 0 ∨ jj = 1 ∨ jj = 2 := by omega
                rcases hj3 with rfl | rfl | rfl
                · exact ⟨6, hb.cell 0 rfl⟩
                · exact ⟨17, hb.cell 1 rfl⟩
                · exact ⟨1, hb.cell 2 rfl⟩
              refine ⟨rfl, ?_⟩
              unfold Oper.wp
              simp [go_sem, hB', hz]
              exact ⟨_, rfl, Below.refl _ _, hI, z, rfl⟩
            · cases ho
              exact ⟨rfl, op_move 0 rfl ⟨_, rfl, Below.refl _ _, hI, t0⟩⟩
            · cases ho
              exact ⟨rfl, op_move 12 rfl ⟨_, rfl, Below.refl _ _, hI, t12⟩⟩
            · cases ho
              have q15 : A.tmps[109]?.getD undef = .int .i64 (j : Int) := by have h : A.tmps.getD 109 undef = .int .i64 (j : Int) := hp ⟨15, .data⟩ 109 (by simp) rfl rfl; simpa using h
              refine ⟨rfl, ?_⟩
              unfold Oper.wp
              simp [go_sem, q15]
              exact ⟨_, rfl, Below.refl _ _, hI, _, rfl⟩
            · cases ho
              have q14 : A.tmps[108]?.getD undef = .slice a len cap := by have h : A.tmps.getD 108 undef = .slice a len cap := hp ⟨14, .data⟩ 108 (by simp) rfl rfl; simpa using h
              obtain ⟨s, es⟩ := hp ⟨16, .data⟩ 110 (by simp) rfl rfl
              have q16 : A.tmps[110]?.getD undef = .int .i64 s := by simpa using es
              refine ⟨rfl, op_callB (by simp [execOp, resolve, Deferred.ofValue, invoke, Act.eval, q14, q16]) (lawPickAny (cap := cap) hc s 300 (by omega) x hbw) ?_⟩
              rintro e y ⟨⟨v, rfl⟩, hw⟩
              have hw := hw.symm
              subst hw
              exact ⟨_, rfl, _, rfl, Below.refl _ _, hI, v, rfl⟩
            · cases ho
              obtain ⟨v1, e1⟩ := hp ⟨2, .data⟩ 96 (by simp) rfl rfl
              have f1 : A.tmps[96]?.getD undef = .int .i64 v1 := by simpa using e1
              obtain ⟨v2, e2⟩ := hp ⟨6, .data⟩ 100 (by simp) rfl rfl
              have f2 : A.tmps[100]?.getD undef = .int .i64 v2 := by simpa using e2
              obtain ⟨v3, e3⟩ := hp ⟨13, .data⟩ 107 (by simp) rfl rfl
              have f3 : A.tmps[107]?.getD undef = .int .i64 v3 := by simpa using e3
              obtain ⟨v4, e4⟩ := hp ⟨17, .data⟩ 111 (by simp) rfl rfl
              have f4 : A.tmps[111]?.getD undef = .int .i64 v4 := by simpa using e4
              refine ⟨rfl, ?_⟩
              unfold Oper.wp
              simp [go_sem, f1, f2, f3, f4]
              exact ⟨_, rfl, Below.refl _ _, hI, v1, v2, v3, v4, rfl⟩
            · cases ho
              refine ⟨rfl, ?_⟩
              unfold Oper.wp
              simp [go_sem]
              exact ⟨_, rfl, (Below.refl _ _).alloc (Nat.le_refl _) _, hI.alloc hI.size _, x.heap.size, rfl, hI.size, Boxed.new x zeroFr 27⟩
          case last =>
            intro o ho A x hk2 hI hp
            cases ho
            obtain ⟨v1, v2, v3, v4, ev⟩ := hp 18 112 (by decide) rfl
            obtain ⟨B, eB, hlo, hbx⟩ := hp 19 13 (by decide) rfl
            refine ⟨rfl, wp_store_row 27 (.tmp 13) (.tmp 112) rfl B _ eB ev _ _ hbx (by kernel_rfl) rfl (frameOne _ _ _ _ _ _ _ _ _ _ _ _ _) ?_⟩
            clear hp ev
            show Exit.then _ _ .normal A _
            have ha := hk2.pick [true, true, true, true, true, true, true, true, true, true, true, true, true, false, true, true, true, true, true, true, true, true, true, true, true, true, true, true, true, true, true, true, true, true, true, true, true, true, true, true, true, true, true, true, true, true, true, true, true, true, true, true, true, true, true, true, true, true, true, true, true, true, true, true, true, true, true, true, true, true, true, true, true, true, true, true, true, true, true, true, true, true, true, true, true, true, true, true, true, true, true, true, true, true, false, false, false, false, false, false, false, false, false, false, false, false, false, false, false, false, false, false, false, true, true, true, true, true, true, true, true, true] (by kernel_rfl)
            simp only [pickS] at ha
            rw [eB] at ha
            clear eB hk2
            generalize A.tmps.getD 94 undef = y94 at ha
            generalize A.tmps.getD 95 undef = y95 at ha
            generalize A.tmps.getD 96 undef = y96 at ha
            generalize A.tmps.getD 97 undef = y97 at ha
            generalize A.tmps.getD 98 undef = y98 at ha
            generalize A.tmps.getD 99 undef = y99 at ha
            generalize A.tmps.getD 100 undef = y100 at ha
            generalize A.tmps.getD 101 undef = y101 at ha
            generalize A.tmps.getD 102 undef = y102 at ha
            generalize A.tmps.getD 103 undef = y103 at ha
            generalize A.tmps.getD 104 undef = y104 at ha
            generalize A.tmps.getD 105 undef = y105 at ha
            generalize A.tmps.getD 106 undef = y106 at ha
            generalize A.tmps.getD 107 undef = y107 at ha
            generalize A.tmps.getD 108 undef = y108 at ha
            generalize A.tmps.getD 109 undef = y109 at ha
            generalize A.tmps.getD 110 undef = y110 at ha
            generalize A.tmps.getD 111 undef = y111 at ha
            generalize A.tmps.getD 112 undef = y112 at ha
            rw [ha]
            clear ha
            go_wp2_with fail
            go_meet
            have hq : ∀ cs, Below wr.heap.size wr (x.setRow B cs) := fun cs => below_setRow hI hlo cs
            exact ⟨B, v1, v2, v3, v4, rfl, setRow_heap x B _ _ _ _ hbx, HJ.out.1.below (hq _), HJ.out.2.below (hq _)⟩
        · obtain rfl : j = 8 := by omega
          go_wp2_with fail
          refine (KO'.out _ HJ.out.2).mono ?_
          rintro e wz ⟨rfl, q⟩
          have HZ : Hid (Below w.heap.size w wz) := HJ.out.1.bel.trans (q.mono HJ.out.1.bel.size)
          clear q HJ
          go_wp2
          go_ret
          exact ⟨rfl, HZ.out⟩
end Go.Proofs.Ytdifegaokdoleaa
