/-
  The walk of the program's Paid. By the verifier.
-/
import Derived.Test.YtfdapmchpikfiaaNdCanI
import Derived.Test.YtfdapmchpikfiaaNdCpy
import Derived.Test.YtfdapmchpikfiaaNdCells
import Derived.Test.YtfdapmchpikfiaaNdApp
import Derived.Test.YtfdapmchpikfiaaNdPayF
namespace Go.Proofs.Ytfdapmchpikfiaa
open Go.RowKit

theorem pathOf_can {l : List Nd} {n size : Int} (h : can l n size = true) : pathOf l n = path l n := by
  unfold pathOf
  rw [if_pos (can_iff.1 h).1]
set_option maxHeartbeats 3200000 in
set_option maxRecDepth 100000 in
theorem implPaid (a : Option Addr) (c : Nat) (r : List Nd) (n : Int) (size : Int) (w : World) (hT : r.length ≤ 1048576) (hc : r.length ≤ c) (hcn : a = none → c = 0) (h : Hid (NdsAt w a r)) :
    Calls Try.prog 8 #[.slice a r.length c, .int .i64 n, .int .i64 size] w fun e w' => (∃ v', e = .returned (.tuple #[v', .bool (can r n size)]) ∧ NdRow w.heap.size w' v' (paid r n size)) ∧ Below w.heap.size w w' := by
  have Hw : Hid (∀ w2, Below w.heap.size w w2 → Hid (NdsAt w2 a r)) := fun w2 q => h.out.below q
  have A1 := fun (_ : Nat) => implTreeOk r a c w hT hc hcn h
  have A2 := fun w1 hh => implCopyNd a c r w1 hT hh
  have A3 := fun w1 hh => implCan r a c n size w1 hT hc hcn hh
  have A4 : Hid (can r n size = true → ∀ w1, NdsAt w1 a r → Calls Try.prog 11 #[.slice a r.length c, .int .i64 n] w1 fun e w' => (∃ v', e = .returned v' ∧ IRow w1.heap.size w' v' (path r n)) ∧ Below w1.heap.size w1 w') := fun e w1 hh => by
    have q := implPathOf a c r n w1 hT hc hcn hh
    rw [pathOf_can e] at q
    exact q
  have N1 : Hid (tok r = false → can r n size = false ∧ paid r n size = []) := fun e => by
    unfold can tin paid
    rw [e]
    exact ⟨rfl, rfl⟩
  have N2 : Hid (tok r = true → can r n size = false → paid r n size = r) := fun e e2 => by
    unfold paid
    rw [e, e2]
    rfl
  have N3 : Hid (tok r = true → can r n size = true → paid r n size = payP r size (path r n)) := fun e e2 => by
    unfold paid
    rw [e, e2]
    rfl
  have Hs : Hid (can r n size = true → (path r n).length ≤ 12 ∧ ∀ i, i < (path r n).length → ∃ k : Nat, (path r n)[i]?.getD 0 = (k : Int) ∧ k < r.length ∧ (payP r size ((path r n).take (i + 1))) = (payP r size ((path r n).take i)).set k ((ndAt (payP r size ((path r n).take i)) k).less size) ∧ ndAt (payP r size ((path r n).take i)) k = ndAt r k ∧ 0 ≤ size ∧ size ≤ (ndAt r k).pz.level ∧ (ndAt r k).pz.level ≤ 100000) := fun hcan => by
    obtain ⟨hin, hs0, hlev⟩ := can_iff.1 hcan
    obtain ⟨hok, n0, n1⟩ := tin_iff.1 hin
    have hlen2 := path_len hok (by omega) n1
    have hl12 := (tok_iff.1 hok).2.1
    have hnd := path_nodup hok (by omega) n1
    have hbd : ∀ x ∈ path r n, 0 ≤ x ∧ x < r.length := fun x hx => by have := path_mem hok (by omega) n1 x hx; omega
    refine ⟨by omega, fun i hi => ?_⟩
    have hb := hbd _ (List.getElem_mem hi)
    obtain ⟨k, e1, e2⟩ : ∃ k : Nat, (path r n)[i]?.getD 0 = (k : Int) ∧ k < r.length := ⟨((path r n)[i]).toNat, by rw [List.getElem?_eq_getElem hi, Option.getD_some]; omega, by omega⟩
    have hm := hlev ((path r n)[i]?.getD 0) (by rw [List.getElem?_eq_getElem hi]; exact List.getElem_mem hi)
    rw [e1, Int.toNat_natCast] at hm
    have ok := Pz.ok_iff.1 (tok_at hok e2).1
    obtain ⟨s1, s2⟩ := pay_step (size := size) hnd hbd hi e1 e2
    exact ⟨k, e1, e2, s1, s2, hs0, hm, by omega⟩
  have H12 : Hid (tok r = true → r.length ≤ 12) := fun e => (tok_iff.1 e).2.1
  generalize tok r = b1 at A1 N1 N2 N3 H12
  generalize can r n size = b2 at A3 A4 N1 N2 N3 Hs ⊢
  generalize paid r n size = R at N1 N2 N3 ⊢
  generalize path r n = P at A4 N3 Hs
  obtain ⟨len, hlen⟩ : ∃ m, r.length = m := ⟨_, rfl⟩
  have Hpl : Hid (∀ i, (payP r size (P.take i)).length = len) := fun i => by rw [payP_len size _ _, hlen]
  rw [hlen] at hT A1 A2 A3 A4 Hs H12 ⊢
  have Hlen : Hid (r.length = len) := hlen
  have A1' : Hid _ := A1
  have A2' : Hid _ := A2
  have A3' : Hid _ := A3
  clear A1 A2 A3 hlen hc hcn
  go_enter Try.func8, Try.ntmps8
  go_wp2_with fail
  refine (A1'.out 0).mono ?_
  rintro e w1 ⟨rfl, q⟩
  have B : Hid (Below w.heap.size w w1) := q
  clear q A1' h
  cases b1
  · obtain ⟨e1, e2⟩ := N1.out rfl
    subst e1; subst e2
    clear A2' A3' A4
    have E : Hid (NdRow w.heap.size (w1.alloc (.cells #[] 40)) (.slice (some ⟨w1.heap.size, 0, none⟩) 0 0) [] ∧ Below w.heap.size w (w1.alloc (.cells #[] 40))) := ⟨nd_built w1 _ B.out.size, B.out.trans ((Below.refl _ _).alloc B.out.size _)⟩
    go_wp2
    go_ret2
    exact ⟨⟨_, rfl, E.out.1⟩, E.out.2⟩
  have h12 := H12.out (by first | exact trivial | exact rfl)
  go_wp2_with fail
  refine (A2'.out _ (Hw.out _ B.out)).mono ?_
  rintro e w3 ⟨g, rfl, r1, q⟩
  have U : Hid (NdRow w.heap.size w3 (.slice (some ⟨g, 0, none⟩) len len) r ∧ Below w.heap.size w w3) := ⟨r1.mono B.out.size, B.out.trans (q.mono B.out.size)⟩
  have Hg : Hid (w.heap.size ≤ g) := (World.ownsRow.lt U.out.1 g rfl).1
  clear r1 q B A2'
  go_wp2_with fail
  refine (A3'.out _ (Hw.out _ U.out.2)).mono ?_
  rintro e w4 ⟨rfl, q⟩
  have U4 : Hid (NdRow w.heap.size w4 (.slice (some ⟨g, 0, none⟩) len len) r ∧ Below w.heap.size w w4) := ⟨U.out.1.below (fun k hk => (U.out.1.lt k hk).2) q, U.out.2.trans (q.mono U.out.2.size)⟩
  clear q U A3'
  cases b2
  · have e1 := N2.out (by first | exact trivial | exact rfl) (by first | exact trivial | exact rfl)
    subst e1
    clear A4
    go_wp2
    go_ret2
    exact ⟨⟨_, rfl, U4.out.1⟩, U4.out.2⟩
  have e1 := N3.out (by first | exact trivial | exact rfl) (by first | exact trivial | exact rfl)
  subst e1
  obtain ⟨hp12, hst⟩ := Hs.out (by first | exact trivial | exact rfl)
  have Ht : Hid _ := hst
  have A5 : Hid _ := A4.out (by first | exact trivial | exact rfl)
  clear hst Hs A4 N1 N2 N3
  obtain ⟨pn, hpn⟩ : ∃ m, P.length = m := ⟨_, rfl⟩
  rw [hpn] at Ht hp12
  have Hf : Hid (P.take pn = P) := by show P.take pn = P; rw [← hpn]; exact List.take_length
  have Hp : Hid (P.length = pn) := hpn
  clear hpn
  go_wp2_with fail
  refine (A5.out _ (Hw.out _ U4.out.2)).mono ?_
  rintro e w5 ⟨⟨v, rfl, ri⟩, q⟩
  obtain ⟨a2, c2, rfl⟩ := ri.shape
  have hg4 := (World.ownsRow.lt U4.out.1 g rfl).2
  have U5 : Hid (NdRow w.heap.size w5 (.slice (some ⟨g, 0, none⟩) len len) (payP r size (P.take 0)) ∧ Below w.heap.size w w5) := by
    show NdRow _ _ _ (payP r size (P.take 0)) ∧ _
    rw [List.take_zero, payP]
    exact ⟨U4.out.1.below (fun k hk => (U4.out.1.lt k hk).2) q, U4.out.2.trans (q.mono U4.out.2.size)⟩
  have I : Hid (IRow w4.heap.size w5 (.slice a2 P.length c2) P ∧ g < w4.heap.size) := ⟨ri, hg4⟩
  rw [Hp.out] at I ⊢
  clear ri q hg4 U4 A5 Hw
  go_wp2
  go_loopw [27] (fun s wr => ∃ i : Nat, i ≤ pn ∧ s = .int .i64 i ∧ Hid (NdRow w.heap.size wr (.slice (some ⟨g, 0, none⟩) len len) (payP r size (P.take i)) ∧ IRow w4.heap.size wr (.slice a2 pn c2) P ∧ Below w.heap.size w wr)) (fun s _ => pn - (intOf s).toNat)
  case atStart => exact ⟨0, Nat.zero_le _, rfl, U5.out.1, I.out.1, U5.out.2⟩
  case round =>
    obtain ⟨i, hi, rfl, HK⟩ := hrel
    clear U5
    by_cases hlt : i < pn
    case neg =>
      obtain rfl : i = pn := by omega
      rw [Hf.out] at HK
      go_wp2
      go_ret2
      exact ⟨⟨_, rfl, HK.out.1⟩, HK.out.2.2⟩
    have hlt' : (i : Int) < (pn : Int) := by omega
    obtain ⟨k, hk1, hk2, hs1, hs2, hz0, hz1, hz2⟩ := Ht.out i hlt
    have hI : IntsAt wr a2 P := by have := HK.out.2.1; rw [← Hp.out] at this; exact this.ints
    obtain ⟨b2, o2, ha2, hb2, q0⟩ := hI i (by rw [Hp.out]; exact hlt)
    subst ha2
    rw [hk1] at q0
    have hrow := HK.out.1
    have hrow' : wr.ownsRow w.heap.size 40 5 (.slice (some ⟨g, 0, none⟩) len len) len (ndcells (payP r size (P.take i))) := by have := hrow; unfold NdRow at this; rw [Hpl.out] at this; exact this
    have hcs : (ndcells (payP r size (P.take i))).length = len * 5 := by rw [ndcells_length, Hpl.out]
    have c3 : wr.cell? ⟨g, k * 5 + 3, none⟩ = some (.int .i64 (ndAt r k).pz.level) := by
      rw [World.ownsRow.cellAt hrow' _ (by omega)]
      rw [(ndcells_get (payP r size (P.take i)) k (by rw [Hpl.out]; exact hk2)).2.2.2.1, hs2]
    have f3 : wr.frozen? ⟨g, k * 5 + 3, none⟩ = false := World.ownsRow.frozenAt hrow' _
    have hgl : g < wr.heap.size := (World.ownsRow.lt hrow g rfl).2
    have Nx : Hid (NdRow w.heap.size (wr.setCell ⟨g, k * 5 + 3, none⟩ (.int .i64 ((ndAt r k).pz.level - size))) (.slice (some ⟨g, 0, none⟩) len len) (payP r size (P.take (i + 1))) ∧ IRow w4.heap.size (wr.setCell ⟨g, k * 5 + 3, none⟩ (.int .i64 ((ndAt r k).pz.level - size))) (.slice (some ⟨b2, o2, none⟩) pn c2) P ∧ Below w.heap.size w (wr.setCell ⟨g, k * 5 + 3, none⟩ (.int .i64 ((ndAt r k).pz.level - size)))) := by
      refine ⟨?_, ?_, HK.out.2.2.setCell Hg.out _⟩
      · have h1 := (World.ownsRow.stored hrow' (k * 5 + 3) (.int .i64 ((ndAt r k).pz.level - size))).1
        rw [← hs2, ndcells_level _ _ _ (by rw [Hpl.out]; exact hk2), ← hs1] at h1
        unfold NdRow
        rw [Hpl.out, ← hs2]
        exact h1
      · exact HK.out.2.1.carry fun j j1 _ => by
          have hI2 := I.out.2
          exact Below.heap_setCell _ _ _ _ (by show j ≠ g; omega)
    generalize (ndAt r k).pz.level = z at c3 Nx hz1 hz2
    have wz : IntKind.i64.wrap (z - size) = z - size := by rw [IntKind.wrap_i64]; omega
    have hkc : (k : Int) < (len : Int) := by omega
    clear HK hs1 hs2 hk1 hI hrow hcs hrow'
    go_wp2
    go_roundw
    case rel => exact ⟨i + 1, by omega, by go_num, Nx.out⟩
    case measure => simp [intOf]; omega
end Go.Proofs.Ytfdapmchpikfiaa
