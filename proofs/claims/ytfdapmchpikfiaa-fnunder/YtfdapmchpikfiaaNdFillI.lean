/-
  The walk of the program's TreeFilled. By the verifier.
-/
import Derived.Test.YtfdapmchpikfiaaNdOkI
import Derived.Test.YtfdapmchpikfiaaNdCpy
import Derived.Test.YtfdapmchpikfiaaNdCells
import Derived.Test.YtfdapmchpikfiaaNdApp
namespace Go.Proofs.Ytfdapmchpikfiaa
open Go.RowKit

/-- So many filled, each by itself. -/
def tflds (l : List Nd) (now : Int) (i : Nat) : List Nd := (l.take i).map (fun x => ⟨x.up, x.pz.filled now⟩) ++ l.drop i
theorem tflds_len (l : List Nd) (now : Int) (i : Nat) : (tflds l now i).length = l.length := by
  unfold tflds
  rw [List.length_append, List.length_map, List.length_take, List.length_drop]
  omega
theorem tflds_zero (l : List Nd) (now : Int) : tflds l now 0 = l := by simp [tflds]
theorem tflds_at (l : List Nd) (now : Int) (i : Nat) (h : i < l.length) : ndAt (tflds l now i) i = ndAt l i := by
  unfold tflds ndAt
  rw [List.getElem?_append_right (by rw [List.length_map, List.length_take]; omega), List.length_map, List.length_take, List.getElem?_drop]
  congr 2
  omega
theorem tflds_next (l : List Nd) (now : Int) (i : Nat) (h : i < l.length) : (tflds l now i).set i ⟨(ndAt l i).up, (ndAt l i).pz.filled now⟩ = tflds l now (i + 1) := by
  unfold tflds
  rw [List.set_append_right _ _ (by rw [List.length_map, List.length_take]; omega), List.length_map, List.length_take, Nat.min_eq_left (Nat.le_of_lt h), Nat.sub_self, List.drop_eq_getElem_cons h, List.set_cons_zero, List.take_succ_eq_append_getElem h, List.map_append, List.append_assoc, ndAt_lt h]
  rfl
theorem tflds_all {l : List Nd} {now : Int} (h : tok l = true) : tflds l now l.length = tfilled l now := by
  unfold tflds tfilled tfill
  rw [List.take_length, List.drop_length, List.append_nil, if_pos h]
  have key : ∀ x ∈ l, x.pz.filled now = if tnow l now = true then x.pz.fill now else x.pz := by
    intro x hx
    obtain ⟨k, hk, rfl⟩ := List.getElem_of_mem hx
    have g := tok_at h hk
    rw [ndAt_lt hk] at g
    unfold Pz.filled
    rw [if_pos g.1]
    have e : (l[k]).pz.at' now = tnow l now := by unfold Pz.at' tnow; rw [g.2.1]
    rw [e]
  by_cases t : tnow l now = true
  · rw [if_pos t]
    refine List.map_congr_left fun x hx => ?_
    rw [key x hx, if_pos t]
  · rw [if_neg t]
    conv => rhs; rw [← List.map_id l]
    refine List.map_congr_left fun x hx => ?_
    rw [key x hx, if_neg t]
    rfl
set_option maxHeartbeats 3200000 in
set_option maxRecDepth 100000 in
theorem implTreeFilled (a : Option Addr) (c : Nat) (r : List Nd) (now : Int) (w : World) (hT : r.length ≤ 1048576) (hc : r.length ≤ c) (hcn : a = none → c = 0) (h : Hid (NdsAt w a r)) :
    Calls Try.prog 23 #[.slice a r.length c, .int .i64 now] w fun e w' => (∃ v', e = .returned (v') ∧ NdRow w.heap.size w' v' (tfilled r now)) ∧ Below w.heap.size w w' := by
  have Hw : Hid (∀ w2, Below w.heap.size w w2 → NdsAt w2 a r) := fun w2 q => h.out.below q
  have A1 := fun (_ : Nat) => implTreeOk r a c w hT hc hcn h
  have A2 := fun w1 hh => implCopyNd a c r w1 hT hh
  have A3 : Hid (∀ k w, k < r.length → Calls Try.prog 26 #[(ndAt r k).pz.val, .int .i64 now] w fun e w' => e = .returned ((ndAt r k).pz.filled now).val ∧ Below w.heap.size w w') := fun k w hk => implFilled (ndAt r k).pz now w
  have N1 : Hid (tok r = false → tfilled r now = []) := fun e => by
    unfold tfilled
    rw [e]
    rfl
  have N3 : Hid (tok r = true → tfilled r now = tflds r now r.length ∧ r.length ≤ 12) := fun e => ⟨(tflds_all e).symm, (tok_iff.1 e).2.1⟩
  generalize tok r = b1 at A1 N1 N3
  generalize tfilled r now = R at N1 N3 ⊢
  obtain ⟨len, hlen⟩ : ∃ m, r.length = m := ⟨_, rfl⟩
  rw [hlen] at hT A1 A2 A3 N3 ⊢
  have Hlen : Hid (r.length = len) := hlen
  have A1' : Hid _ := A1
  have A2' : Hid _ := A2
  clear A1 A2 hlen hc hcn
  go_enter Try.func23, Try.ntmps23
  go_wp2_with fail
  refine (A1'.out 0).mono ?_
  rintro e w1 ⟨rfl, q⟩
  have B : Hid (Below w.heap.size w w1) := q
  clear q A1' h
  cases b1
  · have e := N1.out rfl
    subst e
    clear A2' A3
    have E : Hid (NdRow w.heap.size (w1.alloc (.cells #[] 40)) (.slice (some ⟨w1.heap.size, 0, none⟩) 0 0) [] ∧ Below w.heap.size w (w1.alloc (.cells #[] 40))) := ⟨nd_built w1 _ B.out.size, B.out.trans ((Below.refl _ _).alloc B.out.size _)⟩
    go_wp2
    go_ret
    exact ⟨⟨_, rfl, E.out.1⟩, E.out.2⟩
  obtain ⟨eR, h12⟩ := N3.out (by first | exact trivial | exact rfl)
  subst eR
  go_wp2_with fail
  refine (A2'.out _ (Hw.out _ B.out)).mono ?_
  rintro e w3 ⟨g, rfl, r1, q⟩
  have U0 : Hid (NdRow w.heap.size w3 (.slice (some ⟨g, 0, none⟩) len len) (tflds r now 0) ∧ Below w.heap.size w w3) := by
    show NdRow _ _ _ (tflds r now 0) ∧ _
    rw [tflds_zero]
    exact ⟨r1.mono B.out.size, B.out.trans (q.mono B.out.size)⟩
  have Hg : Hid (w.heap.size ≤ g) := (World.ownsRow.lt U0.out.1 g rfl).1
  have A4 : Hid _ := A3.out
  clear A3 N1 N3 A2' Hw B r1 q
  go_wp2
  go_loopw [15] (fun s wr => ∃ i : Nat, i ≤ len ∧ s = .int .i64 i ∧ Hid (NdRow w.heap.size wr (.slice (some ⟨g, 0, none⟩) len len) (tflds r now i) ∧ Below w.heap.size w wr)) (fun s _ => len - (intOf s).toNat)
  case atStart => exact ⟨0, Nat.zero_le _, rfl, U0.out⟩
  case round =>
    obtain ⟨i, hi, rfl, HK⟩ := hrel
    clear U0
    by_cases hlt : i < len
    case neg =>
      obtain rfl : len = i := by omega
      go_wp2
      go_ret
      exact ⟨⟨_, rfl, HK.out.1⟩, HK.out.2⟩
    have hlt' : (i : Int) < (len : Int) := by omega
    have hln : (tflds r now i).length = len := by rw [tflds_len r now i, Hlen.out]
    have hrow : wr.ownsRow w.heap.size 40 5 (.slice (some ⟨g, 0, none⟩) len len) len (ndcells (tflds r now i)) := by have := HK.out.1; unfold NdRow at this; rw [hln] at this; exact this
    have cs := ndcells_get (tflds r now i) i (by rw [hln]; exact hlt)
    rw [tflds_at r now i (by rw [Hlen.out]; exact hlt)] at cs
    obtain ⟨-, g1, g2, g3, g4⟩ := cs
    have c1 := (World.ownsRow.cellAt hrow (i * 5 + 1) (by omega)).trans g1
    have c2' := (World.ownsRow.cellAt hrow (i * 5 + 2) (by omega)).trans g2
    have c3 := (World.ownsRow.cellAt hrow (i * 5 + 3) (by omega)).trans g3
    have c4 := (World.ownsRow.cellAt hrow (i * 5 + 4) (by omega)).trans g4
    clear g1 g2 g3 g4
    have C := fun w => A4.out i w hlt
    have Nx : Hid (∀ w2, Below wr.heap.size wr w2 → w2.ownsRow w.heap.size 40 5 (.slice (some ⟨g, 0, none⟩) len len) len (ndcells (tflds r now i)) ∧ Below w.heap.size w w2) := fun w2 q => ⟨by
        have h1 : NdRow w.heap.size w2 (.slice (some ⟨g, 0, none⟩) len len) (tflds r now i) := HK.out.1.below (fun k hk => (HK.out.1.lt k hk).2) q
        unfold NdRow at h1
        rw [hln] at h1
        exact h1, HK.out.2.trans (q.mono HK.out.2.size)⟩
    have Fin : Hid (∀ w2, w2.ownsRow w.heap.size 40 5 (.slice (some ⟨g, 0, none⟩) len len) len (((((ndcells (tflds r now i)).set (i * 5 + 1) (.int .i64 ((ndAt r i).pz.filled now).rate)).set (i * 5 + 2) (.int .i64 ((ndAt r i).pz.filled now).burst)).set (i * 5 + 3) (.int .i64 ((ndAt r i).pz.filled now).level)).set (i * 5 + 4) (.int .i64 ((ndAt r i).pz.filled now).tm)) → NdRow w.heap.size w2 (.slice (some ⟨g, 0, none⟩) len len) (tflds r now (i + 1))) := fun w2 hh => by
      rw [ndcells_purse _ i (ndAt r i).up _ (by rw [hln]; exact hlt) (by rw [tflds_at r now i (by rw [Hlen.out]; exact hlt)]), tflds_next r now i (by rw [Hlen.out]; exact hlt)] at hh
      unfold NdRow
      rw [tflds_len r now (i + 1), Hlen.out]
      exact hh
    generalize (ndAt r i).pz.filled now = y at C Fin
    generalize (ndAt r i).pz = x at c1 c2' c3 c4 C
    obtain ⟨x1, x2, x3, x4⟩ := x
    obtain ⟨y1, y2, y3, y4⟩ := y
    simp only [Pz.val] at c1 c2' c3 c4 C Fin
    have hgl : g < wr.heap.size := (World.ownsRow.lt HK.out.1 g rfl).2
    have C' : Hid _ := C
    have Hl : Hid ((ndcells (tflds r now i)).length = len * 5) := by show (ndcells _).length = _; rw [ndcells_length, hln]
    clear C HK hrow
    go_wp2_with fail
    refine (C'.out _).mono ?_
    rintro e w2 ⟨rfl, q⟩
    have R : Hid _ := Nx.out _ q
    have hg2 : g < w2.heap.size := Nat.lt_of_lt_of_le hgl q.size
    have ex : ∀ j, j < len * 5 → ∃ v, w2.cell? ⟨g, j, none⟩ = some v := by
      intro j hj
      rw [R.out.1.cellAt j hj]
      exact ⟨_, List.getElem?_eq_getElem (by rw [Hl.out]; exact hj)⟩
    obtain ⟨u1, hu1⟩ := ex (i * 5 + 1) (by omega)
    obtain ⟨u2, hu2⟩ := ex (i * 5 + 2) (by omega)
    obtain ⟨u3, hu3⟩ := ex (i * 5 + 3) (by omega)
    obtain ⟨u4, hu4⟩ := ex (i * 5 + 4) (by omega)
    have z1 := R.out.1.frozenAt (i * 5 + 1)
    have z2 := R.out.1.frozenAt (i * 5 + 2)
    have z3 := R.out.1.frozenAt (i * 5 + 3)
    have z4 := R.out.1.frozenAt (i * 5 + 4)
    have S := ((((R.out.1.stored (i * 5 + 1) (.int .i64 y1)).1.stored (i * 5 + 2) (.int .i64 y2)).1.stored (i * 5 + 3) (.int .i64 y3)).1.stored (i * 5 + 4) (.int .i64 y4)).1
    have F : Hid (_ ∧ Below w.heap.size w ((((w2.setCell ⟨g, i * 5 + 1, none⟩ (.int .i64 y1)).setCell ⟨g, i * 5 + 2, none⟩ (.int .i64 y2)).setCell ⟨g, i * 5 + 3, none⟩ (.int .i64 y3)).setCell ⟨g, i * 5 + 4, none⟩ (.int .i64 y4))) := ⟨Fin.out _ S, (((R.out.2.setCell Hg.out _).setCell Hg.out _).setCell Hg.out _).setCell Hg.out _⟩
    clear S ex q R Nx Fin C' c1 c2' c3 c4 hgl
    go_wp2
    go_roundw
    case rel => exact ⟨i + 1, by omega, by go_num, F.out⟩
    case measure => simp [intOf]; omega
end Go.Proofs.Ytfdapmchpikfiaa
