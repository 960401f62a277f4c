/-
  The walks of the model's Paid. By the verifier.
-/
import Derived.Test.YtdnghdepiiimmaaNdCanS
import Derived.Test.YtdnghdepiiimmaaNdApp
import Derived.Test.YtdnghdepiiimmaaNdCells
import Derived.Test.YtdnghdepiiimmaaNdPayF
import Derived.Test.YtdnghdepiiimmaaOth
import Derived.Deep.RegionLaw
import Derived.BigRegion
namespace Go.Proofs.Ytdnghdepiiimmaa
open Go.RowKit

set_option maxHeartbeats 3200000 in
set_option maxRecDepth 100000 in
theorem specPay (base g cap : Nat) (l : List Nd) (n size : Int) (w : World) (hc : can l n size = true) (h : Hid (NdRow base w (.slice (some ⟨g, 0, none⟩) l.length cap) l)) (hb : base ≤ w.heap.size) :
    Calls Try.prog 48 #[.slice (some ⟨g, 0, none⟩) l.length cap, .int .i64 n, .int .i64 size] w fun e w' => e = .returned (.tuple #[]) ∧ NdRow base w' (.slice (some ⟨g, 0, none⟩) l.length cap) (payP l size (path l n)) ∧ Below base w w' := by
  obtain ⟨hin, hs0, hlev⟩ := can_iff.1 hc
  obtain ⟨hok, n0, n1⟩ := tin_iff.1 hin
  have A1 := fun (_ : Nat) => specPath (some ⟨g, 0, none⟩) cap l n w hin h.out.at
  have hnd := path_nodup hok (by omega) n1
  have hbd : ∀ x ∈ path l n, 0 ≤ x ∧ x < l.length := fun x hx => by have := path_mem hok (by omega) n1 x hx; omega
  have hlen2 := path_len hok (by omega) n1
  have hl12 := (tok_iff.1 hok).2.1
  have Hs : Hid (∀ i, i < (path l n).length → ∃ k : Nat, (path l n)[i]?.getD 0 = (k : Int) ∧ k < l.length ∧ (payP l size ((path l n).take (i + 1))) = (payP l size ((path l n).take i)).set k ((ndAt (payP l size ((path l n).take i)) k).less size) ∧ ndAt (payP l size ((path l n).take i)) k = ndAt l k ∧ 0 ≤ size ∧ size ≤ (ndAt l k).pz.level ∧ (ndAt l k).pz.level ≤ 100000) := fun i hi => by
    obtain ⟨k, e1, e2⟩ := path_spots hin i hi
    have hm := hlev ((path l n)[i]?.getD 0) (by rw [List.getElem?_eq_getElem hi]; exact List.getElem_mem hi)
    rw [e1, Int.toNat_natCast] at hm
    have ok := Pz.ok_iff.1 (tok_at hok e2).1
    obtain ⟨s1, s2⟩ := pay_step (size := size) hnd hbd hi e1 e2
    exact ⟨k, e1, e2, s1, s2, hs0, hm, by omega⟩
  have Hl : Hid ((path l n).length ≤ 1048576) := by
    show (path l n).length ≤ 1048576
    omega
  generalize path l n = P at A1 Hs Hl ⊢
  clear hc hin hs0 hlev hok hnd hbd hlen2
  have HR : Hid (NdRow base w (.slice (some ⟨g, 0, none⟩) l.length cap) (payP l size (P.take 0))) := by
    show NdRow base w _ (payP l size (P.take 0))
    simpa [payP] using h.out
  have Hpl : Hid (∀ i, (payP l size (P.take i)).length = l.length) := fun i => payP_len size _ _
  obtain ⟨len, hlen⟩ : ∃ m, l.length = m := ⟨_, rfl⟩
  obtain ⟨pn, hpn⟩ : ∃ m, P.length = m := ⟨_, rfl⟩
  have hfin : P.take pn = P := by rw [← hpn]; exact List.take_length
  have Hf : Hid (P.take pn = P) := hfin
  rw [hlen] at A1 Hs HR Hpl n1 hl12 ⊢
  rw [hpn] at Hs Hl
  have hT : pn ≤ 1048576 := Hl.out
  have Hlen : Hid (P.length = pn) := hpn
  have A1' : Hid _ := A1
  have hgb : Hid (base ≤ g) := (World.ownsRow.lt h.out g rfl).1
  clear A1 hlen hpn Hl hfin h
  go_enter Try.func48, Try.ntmps48
  go_wp2_with fail
  refine (A1'.out 0).mono ?_
  rintro e w1 ⟨⟨v, rfl, r⟩, q⟩
  obtain ⟨a2, c2, rfl⟩ := r.shape
  have hg : g < w.heap.size := (World.ownsRow.lt HR.out g rfl).2
  have R1 : Hid (NdRow base w1 (.slice (some ⟨g, 0, none⟩) len cap) (payP l size (P.take 0)) ∧ Below base w w1) := ⟨HR.out.below (fun k hk => by cases hk; exact hg) q, q.mono hb⟩
  have I : Hid (IRow w.heap.size w1 (.slice a2 P.length c2) P ∧ g < w.heap.size) := ⟨r, hg⟩
  rw [Hlen.out] at I ⊢
  clear r q A1' HR hg
  go_wp2
  go_loopw [7] (fun s wr => ∃ i : Nat, i ≤ pn ∧ s = .int .i64 i ∧ Hid (NdRow base wr (.slice (some ⟨g, 0, none⟩) len cap) (payP l size (P.take i)) ∧ IRow w.heap.size wr (.slice a2 pn c2) P ∧ Below base w wr)) (fun s _ => pn - (intOf s).toNat)
  case atStart => exact ⟨0, Nat.zero_le _, rfl, R1.out.1, I.out.1, R1.out.2⟩
  case round =>
    obtain ⟨i, hi, rfl, HK⟩ := hrel
    by_cases hlt : i < pn
    case neg =>
      obtain rfl : i = pn := by omega
      rw [Hf.out] at HK
      go_wp2
      go_end0
      exact ⟨rfl, HK.out.1, HK.out.2.2⟩
    have hlt' : (i : Int) < (pn : Int) := by omega
    obtain ⟨k, hk1, hk2, hs1, hs2, hz0, hz1, hz2⟩ := Hs.out i hlt
    have hI : IntsAt wr a2 P := by have := HK.out.2.1; rw [← Hlen.out] at this; exact this.ints
    obtain ⟨b2, o2, ha2, hb2, q0⟩ := hI i (by rw [Hlen.out]; exact hlt)
    subst ha2
    rw [hk1] at q0
    have hrow := HK.out.1
    have hrow' : wr.ownsRow base 44 5 (.slice (some ⟨g, 0, none⟩) len cap) len (ndcells (payP l size (P.take i))) := by have := hrow; unfold NdRow at this; rw [Hpl.out] at this; exact this
    have hcs : (ndcells (payP l size (P.take i))).length = len * 5 := by rw [ndcells_length, Hpl.out]
    have c3 : wr.cell? ⟨g, k * 5 + 3, none⟩ = some (.int .i64 (ndAt l k).pz.level) := by
      rw [World.ownsRow.cellAt hrow' _ (by omega)]
      rw [(ndcells_get (payP l size (P.take i)) k (by rw [Hpl.out]; exact hk2)).2.2.2.1, hs2]
    have f3 : wr.frozen? ⟨g, k * 5 + 3, none⟩ = false := World.ownsRow.frozenAt hrow' _
    have hgl : g < wr.heap.size := (World.ownsRow.lt hrow g rfl).2
    have Nx : Hid (NdRow base (wr.setCell ⟨g, k * 5 + 3, none⟩ (.int .i64 ((ndAt l k).pz.level - size))) (.slice (some ⟨g, 0, none⟩) len cap) (payP l size (P.take (i + 1))) ∧ IRow w.heap.size (wr.setCell ⟨g, k * 5 + 3, none⟩ (.int .i64 ((ndAt l k).pz.level - size))) (.slice (some ⟨b2, o2, none⟩) pn c2) P ∧ Below base w (wr.setCell ⟨g, k * 5 + 3, none⟩ (.int .i64 ((ndAt l k).pz.level - size)))) := by
      refine ⟨?_, ?_, HK.out.2.2.setCell hgb.out _⟩
      · have h1 := (World.ownsRow.stored hrow' (k * 5 + 3) (.int .i64 ((ndAt l k).pz.level - size))).1
        rw [← hs2, ndcells_level _ _ _ (by rw [Hpl.out]; exact hk2), ← hs1] at h1
        unfold NdRow
        rw [Hpl.out, ← hs2]
        exact h1
      · exact HK.out.2.1.carry fun j j1 _ => by
          have hI2 := I.out.2
          exact Below.heap_setCell _ _ _ _ (by show j ≠ g; omega)
    generalize (ndAt l k).pz.level = z at c3 Nx hz1 hz2
    have wz : IntKind.i64.wrap (z - size) = z - size := by rw [IntKind.wrap_i64]; omega
    have hkc : (k : Int) < (len : Int) := by omega
    clear HK hs1 hs2 hk1 hI hrow hcs hrow'
    go_upto_region 4 with fail
    go_region
    go_wp2
    go_roundw
    case rel => exact ⟨i + 1, by omega, by go_num, Nx.out.1.drew, Nx.out.2.1, Nx.out.2.2.drew⟩
    case measure => simp [intOf]; omega

set_option maxHeartbeats 3200000 in
set_option maxRecDepth 100000 in
theorem specPaid (a : Option Addr) (cap : Nat) (l : List Nd) (n size : Int) (w : World) (hT : l.length ≤ 1048576) (hnil : a = none → cap = 0) (h : Hid (NdsAt w a l)) :
    Calls Try.prog 25 #[.slice a l.length cap, .int .i64 n, .int .i64 size] w fun e w' => (∃ v, e = .returned (.tuple #[v, .bool (can l n size)]) ∧ NdRow w.heap.size w' v (paid l n size)) ∧ Below w.heap.size w w' := by
  have Hw : Hid (∀ w2, Below w.heap.size w w2 → Hid (NdsAt w2 a l)) := fun w2 q => h.out.below q
  have A1 := fun (_ : Nat) => specTreeOk a cap l w hT h
  have A2 := fun w1 hh => specCan a cap l n size w1 hT hh
  have A3 : Hid (can l n size = true → ∀ base g cap w1, base ≤ w1.heap.size → NdRow base w1 (.slice (some ⟨g, 0, none⟩) l.length cap) l → Calls Try.prog 48 #[.slice (some ⟨g, 0, none⟩) l.length cap, .int .i64 n, .int .i64 size] w1 fun e w' => e = .returned (.tuple #[]) ∧ NdRow base w' (.slice (some ⟨g, 0, none⟩) l.length cap) (paid l n size) ∧ Below base w1 w') := fun hc base g cap w1 hb hr => by
    have e : paid l n size = payP l size (path l n) := by unfold paid; rw [if_pos (tin_iff.1 (can_iff.1 hc).1).1, if_pos hc]
    rw [e]
    exact specPay base g cap l n size w1 hc hr hb
  have N1 : Hid (tok l = false → can l n size = false ∧ paid l n size = []) := fun e => by
    unfold can tin paid
    rw [e]
    exact ⟨rfl, rfl⟩
  have N2 : Hid (tok l = true → can l n size = false → paid l n size = l) := fun e e2 => by
    unfold paid
    rw [e, e2]
    rfl
  have Ha : Hid (tok l = true → 0 < l.length) := fun e => (tok_iff.1 e).1
  generalize tok l = b1 at A1 N1 N2 Ha
  generalize can l n size = b2 at A2 A3 N1 N2 ⊢
  generalize paid l n size = R at A3 N1 N2 ⊢
  obtain ⟨len, hlen⟩ : ∃ m, l.length = m := ⟨_, rfl⟩
  rw [hlen] at hT A1 A2 A3 Ha ⊢
  have Hlen : Hid (l.length = len) := hlen
  have A1' : Hid _ := A1
  have A2' : Hid _ := A2
  clear A1 A2 hlen
  go_enter Try.func25, Try.ntmps25
  go_wp2_with fail
  refine (A1'.out 0).mono ?_
  rintro e w1 ⟨rfl, q⟩
  have B : Hid (Below w.heap.size w w1 ∧ NdsAt w1 a l) := ⟨q, h.out.below q⟩
  clear q A1' h
  cases b1
  · obtain ⟨e1, e2⟩ := N1.out rfl
    subst e1; subst e2
    clear A2' A3
    have E : Hid (NdRow w.heap.size (w1.alloc (.cells #[] 44)) (.slice (some ⟨w1.heap.size, 0, none⟩) 0 0) [] ∧ Below w.heap.size w (w1.alloc (.cells #[] 44))) := ⟨nd_built w1 _ B.out.1.size, B.out.1.trans ((Below.refl _ _).alloc B.out.1.size _)⟩
    go_wp2
    go_ret2
    exact ⟨⟨_, rfl, E.out.1⟩, E.out.2⟩
  have hpos : 0 < len := Ha.out rfl
  obtain ⟨b1, o1, ha1, -, -⟩ := B.out.2 0 (by rw [Hlen.out]; exact hpos)
  subst ha1
  have E : Hid (NdRow w.heap.size (w1.alloc (.cells #[] 44)) (.slice (some ⟨w1.heap.size, 0, none⟩) 0 0) [] ∧ Below w.heap.size w (w1.alloc (.cells #[] 44)) ∧ NdsAt (w1.alloc (.cells #[] 44)) (some ⟨b1, o1, none⟩) l) := ⟨nd_built w1 _ B.out.1.size, B.out.1.trans ((Below.refl _ _).alloc B.out.1.size _), B.out.2.alloc _⟩
  clear B
  go_wp2_with (refine nd_app rfl (.tmp 13) (.tmp 14) rfl w.heap.size (.slice (some ⟨w1.heap.size, 0, none⟩) 0 0) [] (some ⟨b1, o1, none⟩) len cap l Hlen.out rfl rfl E.out.1 E.out.2.2 (fun h => by cases h) (by rw [Hlen.out]; simp; omega) E.out.2.1.size ?_; intro v' w2 q1 q2 q3 q4; have q5 : NdRow w.heap.size w2 v' l := (by simpa using q1); obtain ⟨g, c2, e2⟩ := q5.some (fun e => by have := q4 e; cases this); rw [Hlen.out] at e2; subst e2; have U : Hid (NdRow w.heap.size w2 (.slice (some ⟨g, 0, none⟩) len c2) l ∧ Below w.heap.size w w2) := ⟨q5, E.out.2.1.trans q2⟩; clear q1 q2 q3 q4 q5)
  refine (A2'.out _ (Hw.out _ U.out.2)).mono ?_
  rintro e w3 ⟨rfl, q⟩
  have U3 : Hid (NdRow w.heap.size w3 (.slice (some ⟨g, 0, none⟩) len c2) l ∧ Below w.heap.size w w3) := ⟨U.out.1.below (fun k hk => (U.out.1.lt k hk).2) q, U.out.2.trans (q.mono U.out.2.size)⟩
  clear U q A2' E
  cases b2
  · have e := N2.out (by first | exact trivial | exact rfl) (by first | exact trivial | exact rfl)
    subst e
    clear A3
    go_wp2
    go_ret2
    exact ⟨⟨_, rfl, U3.out.1⟩, U3.out.2⟩
  · have A4 : Hid _ := fun (_ : Nat) => A3.out (by first | exact trivial | exact rfl) w.heap.size g c2 w3 U3.out.2.size U3.out.1
    clear A3
    go_wp2_with fail
    refine (A4.out 0).mono ?_
    rintro e w4 ⟨rfl, r, q⟩
    have U4 : Hid (NdRow w.heap.size w4 (.slice (some ⟨g, 0, none⟩) len c2) R ∧ Below w.heap.size w w4) := ⟨r, U3.out.2.trans q⟩
    clear r q A4 U3
    go_wp2
    go_ret2
    exact ⟨⟨_, rfl, U4.out.1⟩, U4.out.2⟩
end Go.Proofs.Ytdnghdepiiimmaa
