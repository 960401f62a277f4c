/-
  The walk of the model's l1Put: a number put into numbers that rise. By the verifier.
-/
import Derived.Test.YtdifegaokdoleaaIntRow
namespace Go.Proofs.Ytdifegaokdoleaa
open Go.RowKit

def insK (xs : List Int) (x : Int) : Nat := xs.findIdx fun y => !decide (y < x)
def insI (xs : List Int) (x : Int) : List Int := if xs[insK xs x]? = some x then xs else xs.take (insK xs x) ++ [x] ++ xs.drop (insK xs x)
theorem insI_mem {xs : List Int} {x z : Int} : z ∈ insI xs x ↔ z = x ∨ z ∈ xs := by
  unfold insI
  by_cases h : xs[insK xs x]? = some x
  · rw [if_pos h]
    constructor
    · exact .inr
    · rintro (rfl | h2)
      · exact List.mem_of_getElem? h
      · exact h2
  · rw [if_neg h]
    have e : z ∈ xs ↔ z ∈ xs.take (insK xs x) ∨ z ∈ xs.drop (insK xs x) := by
      conv => lhs; rw [← List.take_append_drop (insK xs x) xs]
      rw [List.mem_append]
    rw [e]
    simp only [List.mem_append, List.mem_singleton]
    constructor
    · rintro ((h | h) | h)
      · exact .inr (.inl h)
      · exact .inl h
      · exact .inr (.inr h)
    · rintro (h | h | h)
      · exact .inl (.inr h)
      · exact .inl (.inl h)
      · exact .inr h
theorem insI_len (xs : List Int) (x : Int) : (insI xs x).length ≤ xs.length + 1 := by
  unfold insI
  split
  · omega
  · simp; omega
theorem IRow.some {base : Nat} {w : World} {v : Value} {l : List Int} (h : IRow base w v l) (hv : v ≠ .slice .none 0 0) : ∃ g cap, v = .slice (.some ⟨g, 0, .none⟩) l.length cap ∧ l.length ≤ cap := by
  rcases h.2 with ⟨e, _⟩ | ⟨g, cap, cur, e, _, _, h3, _⟩
  · exact absurd e hv
  · exact ⟨g, cap, e, h3⟩
theorem IRow.cell {base : Nat} {w : World} {g n cap : Nat} {l : List Int} (hn : l.length = n) (h : IRow base w (.slice (.some ⟨g, 0, .none⟩) n cap) l) (k : Nat) (hk : k < n) : w.cell? ⟨g, k, .none⟩ = .some (.int .i64 (l[k]?.getD 0)) := by
  subst hn
  obtain ⟨b, off, e, _, hc⟩ := h.ints k hk
  cases e
  rwa [Nat.zero_add] at hc

set_option maxHeartbeats 1600000 in
theorem specPutI (base g cap : Nat) (xs : List Int) (x : Int) (w : World) (hT : xs.length ≤ 1024) (h1 : 1 ≤ xs.length) (hcap : xs.length ≤ cap) (hb : base ≤ w.heap.size) (h : Hid (IRow base w (.slice (some ⟨g, 0, none⟩) xs.length cap) xs)) :
    Calls Try.prog 47 #[.slice (some ⟨g, 0, none⟩) xs.length cap, .int .i64 x] w fun e w' => (∃ v', e = .returned v' ∧ IRow base w' v' (insI xs x) ∧ v' ≠ .slice none 0 0) ∧ Below w.heap.size w w' := by
  obtain ⟨K, hK⟩ : ∃ K, insK xs x = K := ⟨_, rfl⟩
  obtain ⟨len, hlen⟩ : ∃ n, xs.length = n := ⟨_, rfl⟩
  have Hlen : Hid (xs.length = len) := hlen
  have HK : Hid (insK xs x = K) := hK
  have hKl : K ≤ len := by rw [← hK, ← hlen]; exact List.findIdx_le_length
  have HI : Hid (insI xs x = if xs[K]? = some x then xs else xs.take K ++ [x] ++ xs.drop K) := by show insI xs x = _; unfold insI; rw [hK]
  rw [hlen] at hT hcap h h1 ⊢
  have HC : Hid (∀ k, k < len → w.cell? ⟨g, k, none⟩ = some (.int .i64 (xs[k]?.getD 0))) := fun k hk => IRow.cell Hlen.out h.out k hk
  have H1 : Hid (∀ k, k < K → (xs[k]?.getD 0) < x) := by
    intro k hk
    have hkl : k < xs.length := by rw [Hlen.out]; omega
    have := List.not_of_lt_findIdx (p := fun y => !decide (y < x)) (xs := xs) (i := k) (by rw [show xs.findIdx (fun y => !decide (y < x)) = K from HK.out]; exact hk)
    rw [List.getElem?_eq_getElem hkl, Option.getD_some]
    simpa using this
  have H2 : Hid (K < len → ¬ (xs[K]?.getD 0) < x) := by
    intro hk
    have hkl : K < xs.length := by rw [Hlen.out]; omega
    have := List.findIdx_getElem (p := fun y => !decide (y < x)) (xs := xs) (w := by rw [show xs.findIdx (fun y => !decide (y < x)) = K from HK.out]; exact hkl)
    rw [List.getElem?_eq_getElem hkl, Option.getD_some]
    have h3 : (!decide (xs[K] < x)) = true := by
      simpa only [show xs.findIdx (fun y => !decide (y < x)) = K from HK.out] using this
    simpa using h3
  clear hK hlen
  go_enter Try.func47, Try.ntmps47
  go_wp2
  go_loopw [5] (fun i wr => ∃ k : Nat, k ≤ K ∧ i = .int .i64 k ∧ wr = w) (fun i _ => len - (intOf i).toNat)
  case atStart => exact ⟨0, Nat.zero_le _, rfl, rfl⟩
  case round =>
    obtain ⟨k, hk, rfl, hw⟩ := hrel
    have hw' := hw.symm
    subst hw'
    clear hw
    by_cases hkK : k < K
    · have c0 := HC.out k (by omega)
      have hl := H1.out k hkK
      generalize xs[k]?.getD 0 = y at c0 hl
      have hkl' : (k : Int) < (len : Int) := by omega
      go_wp2
      go_roundw
      case rel => exact ⟨k + 1, by omega, by go_num, trivial⟩
      case measure => simp [intOf]; omega
    · obtain rfl : k = K := by omega
      by_cases hkl : k < len
      · have c0 := HC.out k hkl
        have hl := H2.out hkl
        have hkl' : (k : Int) < (len : Int) := by omega
        have hkL : k < xs.length := by rw [Hlen.out]; exact hkl
        have e0 : xs[k]? = some (xs[k]?.getD 0) := by rw [List.getElem?_eq_getElem hkL]; rfl
        have HI2 := HI.out
        rw [e0] at HI2
        generalize xs[k]?.getD 0 = y at c0 hl HI2 e0
        have hge : ¬ y < x := by omega
        by_cases hy : y = x
        · subst hy
          rw [if_pos rfl] at HI2
          have HI3 : Hid (insI xs y = xs) := HI2
          clear HI2 e0 HI hkL
          go_wp2
          go_ret
          exact ⟨⟨_, rfl, by rw [HI3.out]; exact h.out, by intro e; cases e⟩, Below.refl _ _⟩
        · rw [if_neg (by simpa using hy)] at HI2
          have HI3 : Hid (insI xs x = xs.take k ++ [x] ++ xs.drop k) := HI2
          have hck : ¬ cap = k := by omega
          clear HI2 e0 HI hkL
          have hgl := (h.out.lt g rfl).2
          have HD : Hid ((xs.drop k).length = len - k) := by show (xs.drop k).length = _; rw [List.length_drop, Hlen.out]; try omega
          have HT1 : Hid ((xs.take k).length = k) := by show (xs.take k).length = _; rw [List.length_take, Hlen.out]; omega
          have HCd : Hid (∀ j, j < len - k → w.cell? ⟨g, k + j, none⟩ = some (.int .i64 ((xs.drop k)[j]?.getD 0))) := by
            intro j hj
            rw [List.getElem?_drop]; exact HC.out (k + j) (by omega)
          have HCt : Hid (∀ j, j < k → w.cell? ⟨g, 0 + j, none⟩ = some (.int .i64 ((xs.take k)[j]?.getD 0))) := by
            intro j hj
            rw [List.getElem?_take, if_pos hj, Nat.zero_add]
            exact HC.out j (by omega)
          go_wp2_with (at_builtin; refine row_iapp rfl (.tmp 34) (.tmp 37) rfl w.heap.size _ [] _ _ _ _ (xs.drop k) HD.out rfl rfl (irow_built _ _ (Nat.le_refl _)) (fun j hj => by rw [((Below.refl w.heap.size w).alloc (Nat.le_refl _) _).cell (p := ⟨g, k + j, none⟩) hgl]; exact HCd.out j hj) (by rw [HD.out]; simp; omega) (by simp) ?_)
          intro vr w2 r2 b2 _ n2
          have r2' : IRow w.heap.size w2 vr (xs.drop k) := by simpa using r2
          obtain ⟨gr, cr, hvr, hcr⟩ := IRow.some r2' (fun e => by have := n2 e; cases this)
          rw [HD.out] at hvr
          have B2 : Hid (Below w.heap.size w w2 ∧ IRow w.heap.size w2 (.slice (some ⟨gr, 0, none⟩) (len - k) cr) (xs.drop k)) := ⟨((Below.refl _ w).alloc (Nat.le_refl _) _).trans b2, by rw [hvr] at r2'; exact r2'⟩
          subst hvr
          clear r2 r2' b2 n2 hcr
          have hgl2 : g < w2.heap.size := Nat.lt_of_lt_of_le hgl B2.out.1.size
          go_wp2_with (at_builtin; refine row_iapp rfl (.tmp 39) (.tmp 42) rfl w2.heap.size _ [] _ _ _ _ (xs.take k) HT1.out rfl rfl (irow_built _ _ (Nat.le_refl _)) (fun j hj => by rw [((Below.refl w2.heap.size w2).alloc (Nat.le_refl _) _).cell (p := ⟨g, 0 + j, none⟩) hgl2, B2.out.1.cell (p := ⟨g, 0 + j, none⟩) hgl]; exact HCt.out j hj) (by rw [HT1.out]; simp; omega) (by simp) ?_)
          intro v3 w3 r3 b3 _ n3
          have B3 : Hid (Below w2.heap.size w2 w3 ∧ IRow w2.heap.size w3 v3 (xs.take k) ∧ v3 ≠ .slice none 0 0) := ⟨((Below.refl _ w2).alloc (Nat.le_refl _) _).trans b3, by simpa using r3, fun e => by have := n3 e; cases this⟩
          clear r3 b3 n3
          have hs3 := B3.out.1.size
          go_wp2_with (at_builtin; refine row_iapp rfl (.tmp 43) (.tmp 45) rfl w2.heap.size _ (xs.take k) _ _ 1 1 [x] rfl rfl rfl (B3.out.2.1.alloc _) (by intro q hq; obtain rfl : q = 0 := (by omega); simp) (by rw [HT1.out]; simp; omega) (by simp; omega) ?_)
          intro v4 w4 r4 b4 _ n4
          have B4 : Hid (Below w2.heap.size w2 w4 ∧ IRow w2.heap.size w4 v4 (xs.take k ++ [x]) ∧ v4 ≠ .slice none 0 0) := ⟨(B3.out.1.alloc hs3 _).trans b4, r4, fun e => B3.out.2.2 (n4 e)⟩
          clear r4 b4 n4 B3
          have hs4 := B4.out.1.size
          have HR4 : Hid (∀ j, j < len - k → w4.cell? ⟨gr, 0 + j, none⟩ = some (.int .i64 ((xs.drop k)[j]?.getD 0))) := by
            intro j hj
            rw [Nat.zero_add]
            exact IRow.cell HD.out (B2.out.2.below (fun q hq => (B2.out.2.lt q hq).2) B4.out.1) j hj
          go_wp2_with (at_builtin; refine row_iapp rfl (.tmp 46) (.tmp 47) rfl w2.heap.size _ (xs.take k ++ [x]) _ _ _ _ (xs.drop k) HD.out rfl rfl B4.out.2.1 HR4.out (by rw [HD.out, List.length_append, HT1.out]; simp; omega) (by omega) ?_)
          intro v5 w5 r5 b5 _ n5
          have B5 : Hid (IRow base w5 v5 (insI xs x) ∧ v5 ≠ .slice none 0 0 ∧ Below w.heap.size w w5) := ⟨by rw [HI3.out]; exact IRow.mono (base := w2.heap.size) (by simpa using r5) (Nat.le_trans hb B2.out.1.size), fun e => B4.out.2.2 (n5 e), B2.out.1.trans ((B4.out.1.trans b5).mono B2.out.1.size)⟩
          clear r5 b5 n5 B4
          go_wp2
          go_ret
          exact ⟨⟨_, rfl, B5.out.1, B5.out.2.1⟩, B5.out.2.2⟩
      · obtain rfl : k = len := by omega
        have HI3 : Hid (insI xs x = xs.take k ++ [x] ++ xs.drop k) := by
          show insI xs x = _
          rw [HI.out, if_neg]
          rw [List.getElem?_eq_none (by rw [Hlen.out]; exact Nat.le_refl _)]
          simp
        clear HI
        by_cases hck : cap = k
        · subst hck
          have hgl := (h.out.lt g rfl).2
          have HD : Hid ((xs.drop cap).length = 0) := by show (xs.drop cap).length = _; rw [List.length_drop, Hlen.out]; try omega
          have HT1 : Hid ((xs.take cap).length = cap) := by show (xs.take cap).length = _; rw [List.length_take, Hlen.out]; omega
          have HCd : Hid (∀ j, j < 0 → w.cell? ⟨g, 0 + j, none⟩ = some (.int .i64 ((xs.drop cap)[j]?.getD 0))) := by
            intro j hj
            omega
          have HCt : Hid (∀ j, j < cap → w.cell? ⟨g, 0 + j, none⟩ = some (.int .i64 ((xs.take cap)[j]?.getD 0))) := by
            intro j hj
            rw [List.getElem?_take, if_pos hj, Nat.zero_add]
            exact HC.out j (by omega)
          go_wp2_with (at_builtin; refine row_iapp rfl (.tmp 34) (.tmp 37) rfl w.heap.size _ [] _ _ _ _ (xs.drop cap) HD.out rfl rfl (irow_built _ _ (Nat.le_refl _)) (fun j hj => by rw [((Below.refl w.heap.size w).alloc (Nat.le_refl _) _).cell (p := ⟨g, 0 + j, none⟩) hgl]; exact HCd.out j hj) (by rw [HD.out]; simp) (by simp) ?_)
          intro vr w2 r2 b2 _ n2
          have r2' : IRow w.heap.size w2 vr (xs.drop cap) := by simpa using r2
          obtain ⟨gr, cr, hvr, hcr⟩ := IRow.some r2' (fun e => by have := n2 e; cases this)
          rw [HD.out] at hvr
          have B2 : Hid (Below w.heap.size w w2 ∧ IRow w.heap.size w2 (.slice (some ⟨gr, 0, none⟩) (0) cr) (xs.drop cap)) := ⟨((Below.refl _ w).alloc (Nat.le_refl _) _).trans b2, by rw [hvr] at r2'; exact r2'⟩
          subst hvr
          clear r2 r2' b2 n2 hcr
          have hgl2 : g < w2.heap.size := Nat.lt_of_lt_of_le hgl B2.out.1.size
          go_wp2_with (at_builtin; refine row_iapp rfl (.tmp 39) (.tmp 42) rfl w2.heap.size _ [] _ _ _ _ (xs.take cap) HT1.out rfl rfl (irow_built _ _ (Nat.le_refl _)) (fun j hj => by rw [((Below.refl w2.heap.size w2).alloc (Nat.le_refl _) _).cell (p := ⟨g, 0 + j, none⟩) hgl2, B2.out.1.cell (p := ⟨g, 0 + j, none⟩) hgl]; exact HCt.out j hj) (by rw [HT1.out]; simp; omega) (by simp) ?_)
          intro v3 w3 r3 b3 _ n3
          have B3 : Hid (Below w2.heap.size w2 w3 ∧ IRow w2.heap.size w3 v3 (xs.take cap) ∧ v3 ≠ .slice none 0 0) := ⟨((Below.refl _ w2).alloc (Nat.le_refl _) _).trans b3, by simpa using r3, fun e => by have := n3 e; cases this⟩
          clear r3 b3 n3
          have hs3 := B3.out.1.size
          go_wp2_with (at_builtin; refine row_iapp rfl (.tmp 43) (.tmp 45) rfl w2.heap.size _ (xs.take cap) _ _ 1 1 [x] rfl rfl rfl (B3.out.2.1.alloc _) (by intro q hq; obtain rfl : q = 0 := (by omega); simp) (by rw [HT1.out]; simp; omega) (by simp; omega) ?_)
          intro v4 w4 r4 b4 _ n4
          have B4 : Hid (Below w2.heap.size w2 w4 ∧ IRow w2.heap.size w4 v4 (xs.take cap ++ [x]) ∧ v4 ≠ .slice none 0 0) := ⟨(B3.out.1.alloc hs3 _).trans b4, r4, fun e => B3.out.2.2 (n4 e)⟩
          clear r4 b4 n4 B3
          have hs4 := B4.out.1.size
          have HR4 : Hid (∀ j, j < 0 → w4.cell? ⟨gr, 0 + j, none⟩ = some (.int .i64 ((xs.drop cap)[j]?.getD 0))) := by
            intro j hj
            rw [Nat.zero_add]
            exact IRow.cell HD.out (B2.out.2.below (fun q hq => (B2.out.2.lt q hq).2) B4.out.1) j hj
          go_wp2_with (at_builtin; refine row_iapp rfl (.tmp 46) (.tmp 47) rfl w2.heap.size _ (xs.take cap ++ [x]) _ _ _ _ (xs.drop cap) HD.out rfl rfl B4.out.2.1 HR4.out (by rw [HD.out, List.length_append, HT1.out]; simp; omega) (by omega) ?_)
          intro v5 w5 r5 b5 _ n5
          have B5 : Hid (IRow base w5 v5 (insI xs x) ∧ v5 ≠ .slice none 0 0 ∧ Below w.heap.size w w5) := ⟨by rw [HI3.out]; exact IRow.mono (base := w2.heap.size) (by simpa using r5) (Nat.le_trans hb B2.out.1.size), fun e => B4.out.2.2 (n5 e), B2.out.1.trans ((B4.out.1.trans b5).mono B2.out.1.size)⟩
          clear r5 b5 n5 B4
          go_wp2
          go_ret
          exact ⟨⟨_, rfl, B5.out.1, B5.out.2.1⟩, B5.out.2.2⟩
        · skip
          have hgl := (h.out.lt g rfl).2
          have HD : Hid ((xs.drop k).length = 0) := by show (xs.drop k).length = _; rw [List.length_drop, Hlen.out]; try omega
          have HT1 : Hid ((xs.take k).length = k) := by show (xs.take k).length = _; rw [List.length_take, Hlen.out]; omega
          have HCd : Hid (∀ j, j < 0 → w.cell? ⟨g, k + j, none⟩ = some (.int .i64 ((xs.drop k)[j]?.getD 0))) := by
            intro j hj
            omega
          have HCt : Hid (∀ j, j < k → w.cell? ⟨g, 0 + j, none⟩ = some (.int .i64 ((xs.take k)[j]?.getD 0))) := by
            intro j hj
            rw [List.getElem?_take, if_pos hj, Nat.zero_add]
            exact HC.out j (by omega)
          go_wp2_with (at_builtin; refine row_iapp rfl (.tmp 34) (.tmp 37) rfl w.heap.size _ [] _ _ _ _ (xs.drop k) HD.out rfl rfl (irow_built _ _ (Nat.le_refl _)) (fun j hj => by rw [((Below.refl w.heap.size w).alloc (Nat.le_refl _) _).cell (p := ⟨g, k + j, none⟩) hgl]; exact HCd.out j hj) (by rw [HD.out]; simp) (by simp) ?_)
          intro vr w2 r2 b2 _ n2
          have r2' : IRow w.heap.size w2 vr (xs.drop k) := by simpa using r2
          obtain ⟨gr, cr, hvr, hcr⟩ := IRow.some r2' (fun e => by have := n2 e; cases this)
          rw [HD.out] at hvr
          have B2 : Hid (Below w.heap.size w w2 ∧ IRow w.heap.size w2 (.slice (some ⟨gr, 0, none⟩) (0) cr) (xs.drop k)) := ⟨((Below.refl _ w).alloc (Nat.le_refl _) _).trans b2, by rw [hvr] at r2'; exact r2'⟩
          subst hvr
          clear r2 r2' b2 n2 hcr
          have hgl2 : g < w2.heap.size := Nat.lt_of_lt_of_le hgl B2.out.1.size
          go_wp2_with (at_builtin; refine row_iapp rfl (.tmp 39) (.tmp 42) rfl w2.heap.size _ [] _ _ _ _ (xs.take k) HT1.out rfl rfl (irow_built _ _ (Nat.le_refl _)) (fun j hj => by rw [((Below.refl w2.heap.size w2).alloc (Nat.le_refl _) _).cell (p := ⟨g, 0 + j, none⟩) hgl2, B2.out.1.cell (p := ⟨g, 0 + j, none⟩) hgl]; exact HCt.out j hj) (by rw [HT1.out]; simp; omega) (by simp) ?_)
          intro v3 w3 r3 b3 _ n3
          have B3 : Hid (Below w2.heap.size w2 w3 ∧ IRow w2.heap.size w3 v3 (xs.take k) ∧ v3 ≠ .slice none 0 0) := ⟨((Below.refl _ w2).alloc (Nat.le_refl _) _).trans b3, by simpa using r3, fun e => by have := n3 e; cases this⟩
          clear r3 b3 n3
          have hs3 := B3.out.1.size
          go_wp2_with (at_builtin; refine row_iapp rfl (.tmp 43) (.tmp 45) rfl w2.heap.size _ (xs.take k) _ _ 1 1 [x] rfl rfl rfl (B3.out.2.1.alloc _) (by intro q hq; obtain rfl : q = 0 := (by omega); simp) (by rw [HT1.out]; simp; omega) (by simp; omega) ?_)
          intro v4 w4 r4 b4 _ n4
          have B4 : Hid (Below w2.heap.size w2 w4 ∧ IRow w2.heap.size w4 v4 (xs.take k ++ [x]) ∧ v4 ≠ .slice none 0 0) := ⟨(B3.out.1.alloc hs3 _).trans b4, r4, fun e => B3.out.2.2 (n4 e)⟩
          clear r4 b4 n4 B3
          have hs4 := B4.out.1.size
          have HR4 : Hid (∀ j, j < 0 → w4.cell? ⟨gr, 0 + j, none⟩ = some (.int .i64 ((xs.drop k)[j]?.getD 0))) := by
            intro j hj
            rw [Nat.zero_add]
            exact IRow.cell HD.out (B2.out.2.below (fun q hq => (B2.out.2.lt q hq).2) B4.out.1) j hj
          go_wp2_with (at_builtin; refine row_iapp rfl (.tmp 46) (.tmp 47) rfl w2.heap.size _ (xs.take k ++ [x]) _ _ _ _ (xs.drop k) HD.out rfl rfl B4.out.2.1 HR4.out (by rw [HD.out, List.length_append, HT1.out]; simp; omega) (by omega) ?_)
          intro v5 w5 r5 b5 _ n5
          have B5 : Hid (IRow base w5 v5 (insI xs x) ∧ v5 ≠ .slice none 0 0 ∧ Below w.heap.size w w5) := ⟨by rw [HI3.out]; exact IRow.mono (base := w2.heap.size) (by simpa using r5) (Nat.le_trans hb B2.out.1.size), fun e => B4.out.2.2 (n5 e), B2.out.1.trans ((B4.out.1.trans b5).mono B2.out.1.size)⟩
          clear r5 b5 n5 B4
          go_wp2
          go_ret
          exact ⟨⟨_, rfl, B5.out.1, B5.out.2.1⟩, B5.out.2.2⟩
end Go.Proofs.Ytdifegaokdoleaa
