/-
  The walk of the model's TreeFilled. By the verifier.
-/
import Derived.Test.YtfdapmchpikfiaaNdSpec
import Derived.Test.YtfdapmchpikfiaaNdApp
import Derived.Test.YtfdapmchpikfiaaNdCells
import Derived.Test.YtfdapmchpikfiaaM2PzSpecF
namespace Go.Proofs.Ytfdapmchpikfiaa
open Go.RowKit

/-- So many filled. -/
def tfills (l : List Nd) (now : Int) (i : Nat) : List Nd := (tfill l now).take i ++ l.drop i
theorem tfills_len (l : List Nd) (now : Int) (i : Nat) (h : i ≤ l.length) : (tfills l now i).length = l.length := by
  unfold tfills
  rw [List.length_append, List.length_take, tfill_len, List.length_drop]
  omega
theorem tfills_zero (l : List Nd) (now : Int) : tfills l now 0 = l := by simp [tfills]
theorem tfills_all (l : List Nd) (now : Int) : tfills l now l.length = tfill l now := by
  unfold tfills
  rw [List.drop_length, List.append_nil, ← tfill_len l now, List.take_length]
theorem tfills_at (l : List Nd) (now : Int) (i : Nat) (h : i < l.length) : ndAt (tfills l now i) i = ndAt l i := by
  unfold tfills ndAt
  rw [List.getElem?_append_right (by rw [List.length_take, tfill_len]; omega), List.length_take, tfill_len, List.getElem?_drop]
  congr 2
  omega
theorem tfills_next (l : List Nd) (now : Int) (i : Nat) (h : i < l.length) : (tfills l now i).set i ⟨(ndAt l i).up, (ndAt l i).pz.fill now⟩ = tfills l now (i + 1) := by
  unfold tfills
  have h2 : i < (tfill l now).length := by rw [tfill_len]; exact h
  rw [List.set_append_right _ _ (by rw [List.length_take]; omega), List.length_take, tfill_len, Nat.min_eq_left (Nat.le_of_lt h), Nat.sub_self, List.drop_eq_getElem_cons h, List.set_cons_zero, List.take_succ_eq_append_getElem h2, List.append_assoc]
  have e := ndAt_tfill (l := l) now h
  rw [ndAt_lt h2] at e
  rw [e]
  rfl
set_option maxHeartbeats 3200000 in
set_option maxRecDepth 100000 in
theorem specTreeFilled (a : Option Addr) (cap : Nat) (l : List Nd) (now : Int) (w : World) (hT : l.length ≤ 1048576) (h : Hid (NdsAt w a l)) :
    Calls Try.prog 25 #[.slice a l.length cap, .int .i64 now] w fun e w' => (∃ v, e = .returned v ∧ NdRow w.heap.size w' v (tfilled l now)) ∧ Below w.heap.size w w' := by
  have Hw : Hid (∀ w2, Below w.heap.size w w2 → NdsAt w2 a l) := fun w2 q => h.out.below q
  have A1 := fun (_ : Nat) => specTreeOk a cap l w hT h
  have A2 := fun w1 => specIn now (ndAt l 0).pz.tm 1099511627776 w1
  have e0 : inB (ndAt l 0).pz.tm 1099511627776 now = tnow l now := rfl
  rw [e0] at A2
  clear e0
  have A3 : Hid (tok l = true → tnow l now = true → ∀ k w, k < l.length → Calls Try.prog 51 #[(ndAt l k).pz.val, .int .i64 now] w fun e w' => e = .returned ((ndAt l k).pz.fill now).val ∧ Below w.heap.size w w') := fun e1 e2 k w hk => specFillL _ now w (tok_at e1 hk).1 (by
    unfold Pz.at'
    rw [(tok_at e1 hk).2.1]
    exact e2)
  have N1 : Hid (tok l = false → tfilled l now = []) := fun e => by
    unfold tfilled
    rw [e]
    rfl
  have N2 : Hid (tok l = true → tnow l now = false → tfilled l now = l) := fun e e2 => by
    unfold tfilled
    rw [e, e2]
    rfl
  have N3 : Hid (tok l = true → tnow l now = true → tfilled l now = tfills l now l.length) := fun e e2 => by
    unfold tfilled
    rw [e, e2, tfills_all]
    rfl
  have Ha : Hid (tok l = true → 0 < l.length ∧ l.length ≤ 12) := fun e => ⟨(tok_iff.1 e).1, (tok_iff.1 e).2.1⟩
  generalize tok l = b1 at A1 A3 N1 N2 N3 Ha
  generalize tnow l now = b2 at A2 A3 N2 N3
  generalize tfilled l now = R at N1 N2 N3 ⊢
  obtain ⟨len, hlen⟩ : ∃ m, l.length = m := ⟨_, rfl⟩
  rw [hlen] at hT A1 A3 Ha N3 ⊢
  have Hlen : Hid (l.length = len) := hlen
  have A1' : Hid _ := A1
  have A2' : Hid _ := A2
  clear A1 A2 hlen
  go_enter Try.func25, Try.ntmps25
  go_wp2_with fail
  refine (A1'.out 0).mono ?_
  rintro e w1 ⟨rfl, q⟩
  have B : Hid (Below w.heap.size w w1) := q
  clear q A1' h
  cases b1
  · have e := N1.out rfl
    subst e
    clear A2' A3
    have E : Hid (NdRow w.heap.size (w1.alloc (.cells #[] 40)) (.slice (some ⟨w1.heap.size, 0, none⟩) 0 0) [] ∧ Below w.heap.size w (w1.alloc (.cells #[] 40))) := ⟨nd_built w1 _ B.out.size, B.out.trans ((Below.refl _ _).alloc B.out.size _)⟩
    go_wp2
    go_ret
    exact ⟨⟨_, rfl, E.out.1⟩, E.out.2⟩
  obtain ⟨hpos, h12⟩ := Ha.out rfl
  obtain ⟨b1, o1, ha1, -, -⟩ := (Hw.out _ B.out) 0 (by rw [Hlen.out]; exact hpos)
  subst ha1
  have E : Hid (NdRow w.heap.size (w1.alloc (.cells #[] 40)) (.slice (some ⟨w1.heap.size, 0, none⟩) 0 0) [] ∧ Below w.heap.size w (w1.alloc (.cells #[] 40)) ∧ NdsAt (w1.alloc (.cells #[] 40)) (some ⟨b1, o1, none⟩) l) := ⟨nd_built w1 _ B.out.size, B.out.trans ((Below.refl _ _).alloc B.out.size _), (Hw.out _ B.out).alloc _⟩
  have Hc : Hid (∀ w2, Below w.heap.size w w2 → w2.cell? ⟨b1, o1 + 4, none⟩ = some (.int .i64 (ndAt l 0).pz.tm)) := fun w2 q => by
    have := ((Hw.out w2 q).cells (k := 0) (by rw [Hlen.out]; exact hpos)).2.2.2.2
    simpa using this
  generalize (ndAt l 0).pz.tm = t0 at A2' Hc
  clear B
  go_wp2_with (refine nd_app rfl (.tmp 11) (.tmp 12) rfl w.heap.size (.slice (some ⟨w1.heap.size, 0, none⟩) 0 0) [] (some ⟨b1, o1, none⟩) len cap l Hlen.out rfl rfl E.out.1 E.out.2.2 (fun h => by cases h) (by rw [Hlen.out]; simp; omega) E.out.2.1.size ?_; intro v' w2 q1 q2 q3 q4; have q5 : NdRow w.heap.size w2 v' l := (by simpa using q1); obtain ⟨g, c2, e2⟩ := q5.some (fun e => by have := q4 e; cases this); rw [Hlen.out] at e2; subst e2; have U : Hid (NdRow w.heap.size w2 (.slice (some ⟨g, 0, none⟩) len c2) l ∧ Below w.heap.size w w2) := ⟨q5, E.out.2.1.trans q2⟩; have c4 := Hc.out w2 U.out.2; clear q1 q2 q3 q4 q5)
  refine (A2'.out _).mono ?_
  rintro e w3 ⟨rfl, rfl⟩
  clear A2' E Hc c4
  cases b2
  · have e := N2.out (by first | exact trivial | exact rfl) (by first | exact trivial | exact rfl)
    subst e
    clear A3
    go_wp2
    go_ret
    exact ⟨⟨_, rfl, U.out.1⟩, U.out.2⟩
  have eR : R = tfills l now len := N3.out (by first | exact trivial | exact rfl) (by first | exact trivial | exact rfl)
  subst eR
  have A4 : Hid _ := A3.out (by first | exact trivial | exact rfl) (by first | exact trivial | exact rfl)
  have U0 : Hid (NdRow w.heap.size w3 (.slice (some ⟨g, 0, none⟩) len c2) (tfills l now 0) ∧ Below w.heap.size w w3) := by
    show NdRow _ _ _ (tfills l now 0) ∧ _
    rw [tfills_zero]
    exact U.out
  have Hg : Hid (w.heap.size ≤ g) := (World.ownsRow.lt U.out.1 g rfl).1
  clear A3 N1 N2 N3 U Hw
  go_wp2
  go_loopw [6] (fun s wr => ∃ i : Nat, i ≤ len ∧ s = .int .i64 i ∧ Hid (NdRow w.heap.size wr (.slice (some ⟨g, 0, none⟩) len c2) (tfills l now i) ∧ Below w.heap.size w wr)) (fun s _ => len - (intOf s).toNat)
  case atStart => exact ⟨0, Nat.zero_le _, rfl, U0.out⟩
  case round =>
    obtain ⟨i, hi, rfl, HK⟩ := hrel
    clear U0
    by_cases hlt : i < len
    case neg =>
      obtain rfl : len = i := by omega
      go_wp2
      go_ret
      exact ⟨⟨_, rfl, HK.out.1⟩, HK.out.2⟩
    have hlt' : (i : Int) < (len : Int) := by omega
    have hln : (tfills l now i).length = len := by rw [tfills_len l now i (by rw [Hlen.out]; omega), Hlen.out]
    have hrow : wr.ownsRow w.heap.size 40 5 (.slice (some ⟨g, 0, none⟩) len c2) len (ndcells (tfills l now i)) := by have := HK.out.1; unfold NdRow at this; rw [hln] at this; exact this
    have cs := ndcells_get (tfills l now i) i (by rw [hln]; exact hlt)
    rw [tfills_at l now i (by rw [Hlen.out]; exact hlt)] at cs
    obtain ⟨-, g1, g2, g3, g4⟩ := cs
    have c1 := (World.ownsRow.cellAt hrow (i * 5 + 1) (by omega)).trans g1
    have c2' := (World.ownsRow.cellAt hrow (i * 5 + 2) (by omega)).trans g2
    have c3 := (World.ownsRow.cellAt hrow (i * 5 + 3) (by omega)).trans g3
    have c4 := (World.ownsRow.cellAt hrow (i * 5 + 4) (by omega)).trans g4
    clear g1 g2 g3 g4
    have C := fun w => A4.out i w hlt
    have Nx : Hid (∀ w2, Below wr.heap.size wr w2 → w2.ownsRow w.heap.size 40 5 (.slice (some ⟨g, 0, none⟩) len c2) len (ndcells (tfills l now i)) ∧ Below w.heap.size w w2) := fun w2 q => ⟨by
        have h1 : NdRow w.heap.size w2 (.slice (some ⟨g, 0, none⟩) len c2) (tfills l now i) := HK.out.1.below (fun k hk => (HK.out.1.lt k hk).2) q
        unfold NdRow at h1
        rw [hln] at h1
        exact h1, HK.out.2.trans (q.mono HK.out.2.size)⟩
    have Fin : Hid (∀ w2, w2.ownsRow w.heap.size 40 5 (.slice (some ⟨g, 0, none⟩) len c2) len (((((ndcells (tfills l now i)).set (i * 5 + 1) (.int .i64 ((ndAt l i).pz.fill now).rate)).set (i * 5 + 2) (.int .i64 ((ndAt l i).pz.fill now).burst)).set (i * 5 + 3) (.int .i64 ((ndAt l i).pz.fill now).level)).set (i * 5 + 4) (.int .i64 ((ndAt l i).pz.fill now).tm)) → NdRow w.heap.size w2 (.slice (some ⟨g, 0, none⟩) len c2) (tfills l now (i + 1))) := fun w2 hh => by
      rw [ndcells_purse _ i (ndAt l i).up _ (by rw [hln]; exact hlt) (by rw [tfills_at l now i (by rw [Hlen.out]; exact hlt)]), tfills_next l now i (by rw [Hlen.out]; exact hlt)] at hh
      unfold NdRow
      rw [tfills_len l now (i + 1) (by rw [Hlen.out]; omega), Hlen.out]
      exact hh
    generalize (ndAt l i).pz.fill now = y at C Fin
    generalize (ndAt l i).pz = x at c1 c2' c3 c4 C
    obtain ⟨x1, x2, x3, x4⟩ := x
    obtain ⟨y1, y2, y3, y4⟩ := y
    simp only [Pz.val] at c1 c2' c3 c4 C Fin
    have hgl : g < wr.heap.size := (World.ownsRow.lt HK.out.1 g rfl).2
    have C' : Hid _ := C
    have Hl : Hid ((ndcells (tfills l now i)).length = len * 5) := by show (ndcells _).length = _; rw [ndcells_length, hln]
    clear C HK hrow
    go_wp2_with fail
    refine (C'.out _).mono ?_
    rintro e w2 ⟨rfl, q⟩
    have R : Hid _ := Nx.out _ q
    have hg2 : g < w2.heap.size := Nat.lt_of_lt_of_le hgl q.size
    have ex : ∀ j, j < len * 5 → ∃ v, w2.cell? ⟨g, j, none⟩ = some v := by
      intro j hj
      rw [R.out.1.cellAt j hj]
      exact ⟨_, List.getElem?_eq_getElem (by rw [Hl.out]; exact hj)⟩
    obtain ⟨u1, hu1⟩ := ex (i * 5 + 1) (by omega)
    obtain ⟨u2, hu2⟩ := ex (i * 5 + 2) (by omega)
    obtain ⟨u3, hu3⟩ := ex (i * 5 + 3) (by omega)
    obtain ⟨u4, hu4⟩ := ex (i * 5 + 4) (by omega)
    have z1 := R.out.1.frozenAt (i * 5 + 1)
    have z2 := R.out.1.frozenAt (i * 5 + 2)
    have z3 := R.out.1.frozenAt (i * 5 + 3)
    have z4 := R.out.1.frozenAt (i * 5 + 4)
    have S := ((((R.out.1.stored (i * 5 + 1) (.int .i64 y1)).1.stored (i * 5 + 2) (.int .i64 y2)).1.stored (i * 5 + 3) (.int .i64 y3)).1.stored (i * 5 + 4) (.int .i64 y4)).1
    have F : Hid (_ ∧ Below w.heap.size w ((((w2.setCell ⟨g, i * 5 + 1, none⟩ (.int .i64 y1)).setCell ⟨g, i * 5 + 2, none⟩ (.int .i64 y2)).setCell ⟨g, i * 5 + 3, none⟩ (.int .i64 y3)).setCell ⟨g, i * 5 + 4, none⟩ (.int .i64 y4))) := ⟨Fin.out _ S, (((R.out.2.setCell Hg.out _).setCell Hg.out _).setCell Hg.out _).setCell Hg.out _⟩
    clear S ex q R Nx Fin C' c1 c2' c3 c4 hgl
    go_wp2
    go_roundw
    case rel => exact ⟨i + 1, by omega, by go_num, F.out⟩
    case measure => simp [intOf]; omega
end Go.Proofs.Ytfdapmchpikfiaa
