/-
  The walks of the model's Can and WhenCan. By the verifier.
-/
import Derived.Test.YtfdapmchpikfiaaNdPathS
import Derived.Test.YtfdapmchpikfiaaM3PzSpecW
namespace Go.Proofs.Ytfdapmchpikfiaa
open Go.RowKit

theorem specMaxN (a b : Int) (w : World) :
    Calls Try.prog 62 #[.int .i64 a, .int .i64 b] w fun e w' => e = .returned (.int .i64 (max a b)) ∧ w' = w := by
  by_cases h : b < a
  · rw [show max a b = a by omega]
    go_enter Try.func62, Try.ntmps62
    go_wp2
    go_ret
    exact ⟨rfl, rfl⟩
  · rw [show max a b = b by omega]
    have h' : decide (b < a) = false := decide_eq_false h
    go_enter Try.func62, Try.ntmps62
    go_wp2
    go_ret
    exact ⟨rfl, rfl⟩
/-- Where the numbers of a path lead. -/
theorem path_spots {l : List Nd} {n : Int} (hin : tin l n = true) : ∀ i, i < (path l n).length → ∃ k : Nat, (path l n)[i]?.getD 0 = (k : Int) ∧ k < l.length := by
  obtain ⟨hok, h0, h1⟩ := tin_iff.1 hin
  intro i hi
  have hm := path_mem hok (by omega) h1 ((path l n)[i]?.getD 0) (by rw [List.getElem?_eq_getElem hi]; exact List.getElem_mem hi)
  exact ⟨((path l n)[i]?.getD 0).toNat, by omega, by omega⟩
set_option maxHeartbeats 3200000 in
set_option maxRecDepth 100000 in
theorem specCanP (a : Option Addr) (cap : Nat) (l : List Nd) (n size : Int) (w : World) (hin : tin l n = true) (h : Hid (NdsAt w a l)) :
    Calls Try.prog 41 #[.slice a l.length cap, .int .i64 n, .int .i64 size] w fun e w' => e = .returned (.bool (canP l (path l n) size)) ∧ Below w.heap.size w w' := by
  have A1 := fun (_ : Nat) => specPath a cap l n w hin h
  have Hs : Hid (∀ i, i < (path l n).length → ∃ k : Nat, (path l n)[i]?.getD 0 = (k : Int) ∧ k < l.length) := path_spots hin
  have Hl : Hid ((path l n).length ≤ 1048576) := by
    obtain ⟨hok, h0, h1⟩ := tin_iff.1 hin
    have := path_len hok (by omega) h1
    have := (tok_iff.1 hok).2.1
    show (path l n).length ≤ 1048576
    omega
  have Hl2 : Hid (l.length ≤ 12) := (tok_iff.1 (tin_iff.1 hin).1).2.1
  generalize path l n = P at A1 Hs Hl ⊢
  obtain ⟨R, hR⟩ : ∃ R, canP l P size = R := ⟨_, rfl⟩
  have Yes : Hid ((∀ i, i < P.length → size ≤ (ndAt l (P[i]?.getD 0).toNat).pz.level) → R = true) := fun g => by
    rw [← hR]
    unfold canP
    rw [List.all_eq_true]
    intro x hx
    obtain ⟨i, hi, e⟩ := List.getElem_of_mem hx
    have := g i hi
    rw [List.getElem?_eq_getElem hi, e] at this
    exact decide_eq_true this
  have No : Hid (∀ i, i < P.length → (ndAt l (P[i]?.getD 0).toNat).pz.level < size → R = false) := fun i hi g => by
    rw [← hR]
    cases hq : canP l P size with
    | false => rfl
    | true =>
      unfold canP at hq
      rw [List.all_eq_true] at hq
      have := of_decide_eq_true (hq (P[i]?.getD 0) (by rw [List.getElem?_eq_getElem hi]; exact List.getElem_mem hi))
      omega
  rw [hR]
  clear hR hin
  obtain ⟨len, hlen⟩ : ∃ m, l.length = m := ⟨_, rfl⟩
  obtain ⟨pn, hpn⟩ : ∃ m, P.length = m := ⟨_, rfl⟩
  rw [hlen] at A1 Hs Hl2 ⊢
  rw [hpn] at Hs Hl Yes No
  have hT : pn ≤ 1048576 := Hl.out
  have hL : len ≤ 12 := Hl2.out
  have Hlen : Hid (l.length = len ∧ P.length = pn) := ⟨hlen, hpn⟩
  have A1' : Hid _ := A1
  clear A1 hlen hpn Hl Hl2
  go_enter Try.func41, Try.ntmps41
  go_wp2_with fail
  refine (A1'.out 0).mono ?_
  rintro e w1 ⟨⟨v, rfl, r⟩, q⟩
  obtain ⟨a2, c2, rfl⟩ := r.shape
  have I : Hid (IntsAt w1 a2 P ∧ NdsAt w1 a l ∧ Below w.heap.size w w1) := ⟨r.ints, h.out.below q, q⟩
  rw [Hlen.out.2]
  clear r q A1' h
  go_wp2
  go_loop [8] (fun s => ∃ i : Nat, i ≤ pn ∧ s = .int .i64 i ∧ Hid (∀ j, j < i → size ≤ (ndAt l (P[j]?.getD 0).toNat).pz.level)) (fun s => pn - (intOf s).toNat)
  case atStart => exact ⟨0, Nat.zero_le _, rfl, fun j hj => by omega⟩
  case round =>
    obtain ⟨i, hi, rfl, HK⟩ := hrel
    by_cases hlt : i < pn
    case neg =>
      obtain rfl : i = pn := by omega
      have e : R = true := Yes.out HK.out
      subst e
      go_wp2
      go_ret
      exact ⟨rfl, I.out.2.2⟩
    have hlt' : (i : Int) < (pn : Int) := by omega
    obtain ⟨b2, o2, ha2, -, q0⟩ := I.out.1 i (by rw [Hlen.out.2]; exact hlt)
    obtain ⟨k, hk1, hk2⟩ := Hs.out i hlt
    obtain ⟨b1, o1, ha1, -, -⟩ := I.out.2.1 k (by rw [Hlen.out.1]; exact hk2)
    subst ha2; subst ha1
    have c3 := (I.out.2.1.cells (k := k) (by rw [Hlen.out.1]; exact hk2)).2.2.2.1
    rw [hk1] at q0
    have Nk := No.out i hlt
    have Yk : Hid (size ≤ (ndAt l (P[i]?.getD 0).toNat).pz.level → ∀ j, j < i + 1 → size ≤ (ndAt l (P[j]?.getD 0).toNat).pz.level) := fun hg j hj => by
      by_cases e : j = i
      · rw [e]; exact hg
      · exact HK.out j (by omega)
    rw [hk1, Int.toNat_natCast] at Nk Yk
    generalize (ndAt l k).pz.level = z at c3 Nk Yk
    have HN : Hid (z < size → R = false) := Nk
    clear Nk HK hk1
    by_cases hz : z < size
    · have e : R = false := HN.out hz
      subst e
      go_wp2
      go_ret
      exact ⟨rfl, I.out.2.2⟩
    · have hz' : decide (z < size) = false := decide_eq_false hz
      have G : Hid _ := Yk.out (by omega)
      clear Yk
      go_wp2
      go_round
      case rel => exact ⟨i + 1, by omega, by go_num, G.out⟩
      case measure => simp [intOf]; omega

set_option maxHeartbeats 3200000 in
set_option maxRecDepth 100000 in
theorem specCan (a : Option Addr) (cap : Nat) (l : List Nd) (n size : Int) (w : World) (hT : l.length ≤ 1048576) (h : Hid (NdsAt w a l)) :
    Calls Try.prog 14 #[.slice a l.length cap, .int .i64 n, .int .i64 size] w fun e w' => e = .returned (.bool (can l n size)) ∧ Below w.heap.size w w' := by
  have A1 := fun (_ : Nat) => specIn15 a cap l n w hT h
  have A2 : Hid (tin l n = true → ∀ w1, NdsAt w1 a l → Calls Try.prog 41 #[.slice a l.length cap, .int .i64 n, .int .i64 size] w1 fun e w' => e = .returned (.bool (canP l (path l n) size)) ∧ Below w1.heap.size w1 w') := fun hin w1 hh => specCanP a cap l n size w1 hin hh
  have Ht : Hid (can l n size = (tin l n && (decide (0 ≤ size) && canP l (path l n) size))) := rfl
  generalize can l n size = R at Ht ⊢
  generalize canP l (path l n) size = b2 at A2 Ht
  generalize tin l n = b1 at A1 A2 Ht
  generalize l.length = len at hT A1 A2 ⊢
  have A1' : Hid _ := A1
  clear A1
  go_enter Try.func14, Try.ntmps14
  go_wp2_with fail
  refine (A1'.out 0).mono ?_
  rintro e w1 ⟨rfl, q⟩
  have B : Hid (Below w.heap.size w w1 ∧ NdsAt w1 a l) := ⟨q, h.out.below q⟩
  clear q A1' h
  cases b1
  · clear A2
    go_wp2
    go_ret
    exact ⟨ret_bool (by rw [Ht.out]; rfl), B.out.1⟩
  by_cases h0 : 0 ≤ size
  · have h0' : decide (0 ≤ size) = true := decide_eq_true h0
    have A3 : Hid _ := fun (_ : Nat) => A2.out rfl w1 B.out.2
    clear A2
    go_wp2_with fail
    refine (A3.out 0).mono ?_
    rintro e w2 ⟨rfl, q⟩
    have B2 : Hid (Below w.heap.size w w2) := B.out.1.trans (q.mono B.out.1.size)
    clear A3 q
    go_wp2
    go_ret
    exact ⟨ret_bool (by rw [Ht.out, h0']; rfl), B2.out⟩
  · have h0' : decide (0 ≤ size) = false := decide_eq_false h0
    clear A2
    go_wp2
    go_ret
    exact ⟨ret_bool (by rw [Ht.out, h0']; rfl), B.out.1⟩

theorem whenF_at {l : List Nd} {size : Int} : ∀ (p : List Int) (i : Nat) (t : Int), i < p.length → whenF l size (p.drop i) t = if (ndAt l (p[i]?.getD 0).toNat).pz.whenL size < 0 then -1 else whenF l size (p.drop (i + 1)) (max t ((ndAt l (p[i]?.getD 0).toNat).pz.whenL size)) := by
  intro p i t hi
  rw [List.drop_eq_getElem_cons hi, List.getElem?_eq_getElem hi]
  rfl
set_option maxHeartbeats 3200000 in
set_option maxRecDepth 100000 in
theorem specWhenP (a : Option Addr) (cap : Nat) (l : List Nd) (n size : Int) (w : World) (hin : tin l n = true) (h0 : 0 ≤ size) (h63 : size ≤ 9223372036854775807) (h : Hid (NdsAt w a l)) :
    Calls Try.prog 49 #[.slice a l.length cap, .int .i64 n, .int .i64 size] w fun e w' => e = .returned (.int .i64 (whenF l size (path l n) 0)) ∧ Below w.heap.size w w' := by
  have A1 := fun (_ : Nat) => specPath a cap l n w hin h
  have Hs : Hid (∀ i, i < (path l n).length → ∃ k : Nat, (path l n)[i]?.getD 0 = (k : Int) ∧ k < l.length) := path_spots hin
  have Hl : Hid ((path l n).length ≤ 1048576) := by
    obtain ⟨hok, h0, h1⟩ := tin_iff.1 hin
    have := path_len hok (by omega) h1
    have := (tok_iff.1 hok).2.1
    show (path l n).length ≤ 1048576
    omega
  have Hl2 : Hid (l.length ≤ 12) := (tok_iff.1 (tin_iff.1 hin).1).2.1
  have Hw : Hid (∀ k w, k < l.length → Calls Try.prog 61 #[(ndAt l k).pz.val, .int .i64 size] w fun e w' => e = .returned (.int .i64 ((ndAt l k).pz.whenL size)) ∧ Below w.heap.size w w') := fun k w hk => specWhenL (ndAt l k).pz size w (tok_at (tin_iff.1 hin).1 hk).1 h0 h63
  generalize path l n = P at A1 Hs Hl ⊢
  obtain ⟨R, hR⟩ : ∃ R, whenF l size P 0 = R := ⟨_, rfl⟩
  have St : Hid (whenF l size (P.drop 0) 0 = R) := hR
  rw [hR]
  clear hR hin
  obtain ⟨len, hlen⟩ : ∃ m, l.length = m := ⟨_, rfl⟩
  obtain ⟨pn, hpn⟩ : ∃ m, P.length = m := ⟨_, rfl⟩
  rw [hlen] at A1 Hs Hl2 Hw ⊢
  rw [hpn] at Hs Hl
  have hT : pn ≤ 1048576 := Hl.out
  have hL : len ≤ 12 := Hl2.out
  have Hlen : Hid (l.length = len ∧ P.length = pn) := ⟨hlen, hpn⟩
  have A1' : Hid _ := A1
  clear A1 hlen hpn Hl Hl2
  go_enter Try.func49, Try.ntmps49
  go_wp2_with fail
  refine (A1'.out 0).mono ?_
  rintro e w1 ⟨⟨v, rfl, r⟩, q⟩
  obtain ⟨a2, c2, rfl⟩ := r.shape
  have I : Hid (IntsAt w1 a2 P ∧ NdsAt w1 a l ∧ Below w.heap.size w w1) := ⟨r.ints, h.out.below q, q⟩
  rw [Hlen.out.2]
  clear r q A1' h
  go_wp2
  go_loopw [7, 9, 10] (fun u s _ wr => ∃ (i : Nat) (t : Int), i ≤ pn ∧ s = .int .i64 i ∧ u = .int .i64 t ∧ Hid (whenF l size (P.drop i) t = R ∧ Below w1.heap.size w1 wr)) (fun _ s _ _ => pn - (intOf s).toNat)
  case atStart => exact ⟨0, 0, Nat.zero_le _, rfl, rfl, St.out, Below.refl _ _⟩
  case round =>
    obtain ⟨i, t, hi, rfl, rfl, HK⟩ := hrel
    by_cases hlt : i < pn
    case neg =>
      obtain rfl : i = pn := by omega
      have e : t = R := by
        have := HK.out.1
        rw [List.drop_eq_nil_of_le (by rw [Hlen.out.2]; omega)] at this
        exact this
      subst e
      go_wp2
      go_ret
      exact ⟨rfl, I.out.2.2.trans (HK.out.2.mono I.out.2.2.size)⟩
    have hlt' : (i : Int) < (pn : Int) := by omega
    obtain ⟨b2, o2, ha2, -, q0⟩ := (I.out.1.below HK.out.2) i (by rw [Hlen.out.2]; exact hlt)
    obtain ⟨k, hk1, hk2⟩ := Hs.out i hlt
    obtain ⟨b1, o1, ha1, -, -⟩ := (I.out.2.1.below HK.out.2) k (by rw [Hlen.out.1]; exact hk2)
    subst ha2; subst ha1
    obtain ⟨-, c1, c2, c3, c4⟩ := (I.out.2.1.below HK.out.2).cells (k := k) (by rw [Hlen.out.1]; exact hk2)
    rw [hk1] at q0
    have Fx := HK.out.1
    rw [whenF_at P i t (by rw [Hlen.out.2]; exact hlt), hk1, Int.toNat_natCast] at Fx
    have Cw := fun w => Hw.out k w hk2
    have HB : Hid (Below w1.heap.size w1 wr) := HK.out.2
    generalize (ndAt l k).pz.whenL size = z at Fx Cw
    generalize (ndAt l k).pz = x at c1 c2 c3 c4 Cw
    obtain ⟨x1, x2, x3, x4⟩ := x
    simp only [Pz.val] at c1 c2 c3 c4 Cw
    have Cw' : Hid _ := Cw
    have HF : Hid _ := Fx
    clear Cw Fx HK hk1
    go_wp2_with fail
    refine (Cw'.out _).mono ?_
    rintro e w2 ⟨rfl, q⟩
    have B2 : Hid (Below w1.heap.size w1 w2) := HB.out.trans (q.mono HB.out.size)
    clear q Cw' HB c1 c2 c3 c4 q0
    by_cases hz : z < 0
    · have e : R = -1 := by have := HF.out; rw [if_pos hz] at this; exact this.symm
      subst e
      go_wp2
      go_ret
      exact ⟨rfl, I.out.2.2.trans (B2.out.mono I.out.2.2.size)⟩
    · have hz' : decide (z < 0) = false := decide_eq_false hz
      have G : Hid (whenF l size (P.drop (i + 1)) (max t z) = R) := by have := HF.out; rw [if_neg hz] at this; exact this
      clear HF
      have M := fun w => specMaxN t z w
      generalize max t z = y at G M
      have M' : Hid _ := M
      clear M
      go_wp2_with fail
      refine (M'.out _).mono ?_
      rintro e w3 ⟨rfl, rfl⟩
      go_wp2
      go_roundw
      case rel => exact ⟨i + 1, y, by omega, by go_num, rfl, G.out, B2.out⟩
      case measure => simp [intOf]; omega

set_option maxHeartbeats 3200000 in
set_option maxRecDepth 100000 in
theorem specWhenCan (a : Option Addr) (cap : Nat) (l : List Nd) (n size : Int) (w : World) (hT : l.length ≤ 1048576) (h63 : size ≤ 9223372036854775807) (h : Hid (NdsAt w a l)) :
    Calls Try.prog 24 #[.slice a l.length cap, .int .i64 n, .int .i64 size] w fun e w' => e = .returned (.int .i64 (whenCan l n size)) ∧ Below w.heap.size w w' := by
  have A1 := fun (_ : Nat) => specIn15 a cap l n w hT h
  have A2 : Hid (tin l n = true → 0 ≤ size → ∀ w1, NdsAt w1 a l → Calls Try.prog 49 #[.slice a l.length cap, .int .i64 n, .int .i64 size] w1 fun e w' => e = .returned (.int .i64 (whenCan l n size)) ∧ Below w1.heap.size w1 w') := fun hin h0 w1 hh => by
    unfold whenCan
    rw [if_pos ⟨hin, h0⟩]
    exact specWhenP a cap l n size w1 hin h0 h63 hh
  have Hn : Hid (¬ (tin l n = true ∧ 0 ≤ size) → whenCan l n size = -1) := fun e => by unfold whenCan; rw [if_neg e]
  generalize whenCan l n size = R at A2 Hn ⊢
  generalize tin l n = b1 at A1 A2 Hn
  generalize l.length = len at hT A1 A2 ⊢
  have A1' : Hid _ := A1
  clear A1
  go_enter Try.func24, Try.ntmps24
  go_wp2_with fail
  refine (A1'.out 0).mono ?_
  rintro e w1 ⟨rfl, q⟩
  have B : Hid (Below w.heap.size w w1 ∧ NdsAt w1 a l) := ⟨q, h.out.below q⟩
  clear q A1' h
  cases b1
  · have e : R = -1 := Hn.out (by simp)
    subst e
    clear A2
    go_wp2
    go_ret
    exact ⟨rfl, B.out.1⟩
  by_cases h0 : size < 0
  · have h0' : decide (size < 0) = true := decide_eq_true h0
    have e : R = -1 := Hn.out (by omega)
    subst e
    clear A2
    go_wp2
    go_ret
    exact ⟨rfl, B.out.1⟩
  · have h0' : decide (size < 0) = false := decide_eq_false h0
    have A3 : Hid _ := fun (_ : Nat) => A2.out rfl (by omega) w1 B.out.2
    clear A2
    go_wp2_with fail
    refine (A3.out 0).mono ?_
    rintro e w2 ⟨rfl, q⟩
    have B2 : Hid (Below w.heap.size w w2) := B.out.1.trans (q.mono B.out.1.size)
    clear A3 q
    go_wp2
    go_ret
    exact ⟨rfl, B2.out⟩
end Go.Proofs.Ytfdapmchpikfiaa
