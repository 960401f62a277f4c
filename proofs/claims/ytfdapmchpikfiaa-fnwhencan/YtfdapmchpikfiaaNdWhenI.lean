/-
  The walk of the program's WhenCan. By the verifier.
-/
import Derived.Test.YtfdapmchpikfiaaNdNum
import Derived.Test.YtfdapmchpikfiaaPzImplW
namespace Go.Proofs.Ytfdapmchpikfiaa
open Go.RowKit

/-- When each of a list of nodes has so much, as the program tells it. -/
def whenG (l : List Nd) (size : Int) : List Int → Int → Int
  | [], t => t
  | x :: p, t => if (ndAt l x.toNat).pz.when size = -1 then -1 else whenG l size p (max t ((ndAt l x.toNat).pz.when size))
theorem whenG_at {l : List Nd} {size : Int} : ∀ (p : List Int) (i : Nat) (t : Int), i < p.length → whenG l size (p.drop i) t = if (ndAt l (p[i]?.getD 0).toNat).pz.when size = -1 then -1 else whenG l size (p.drop (i + 1)) (max t ((ndAt l (p[i]?.getD 0).toNat).pz.when size)) := by
  intro p i t hi
  rw [List.drop_eq_getElem_cons hi, List.getElem?_eq_getElem hi]
  rfl
theorem whenL_no {p : Pz} {n : Int} (h : p.ok = true) : p.whenL n = -1 ∨ 0 ≤ p.whenL n := by
  have g := Pz.ok_iff.1 h
  unfold Pz.whenL
  by_cases h1 : n ≤ p.level
  · rw [if_pos h1]; omega
  rw [if_neg h1]
  by_cases h2 : p.rate = 0 ∨ p.burst < n
  · rw [if_pos h2]; exact .inl rfl
  rw [if_neg h2]
  split
  · exact .inl rfl
  · right
    have : 0 ≤ (n - p.level + p.rate - 1) / p.rate := Int.ediv_nonneg (by omega) (by omega)
    omega
theorem whenG_F {l : List Nd} {size : Int} (h0 : 0 ≤ size) : ∀ (p : List Int) (t : Int), (∀ x ∈ p, (ndAt l x.toNat).pz.ok = true) → whenG l size p t = whenF l size p t
  | [], _, _ => rfl
  | x :: p, t, h => by
    have ok := h x (List.mem_cons_self ..)
    have e : (ndAt l x.toNat).pz.when size = (ndAt l x.toNat).pz.whenL size := by unfold Pz.when; rw [if_pos ⟨ok, h0⟩]
    unfold whenG whenF
    rw [e]
    rcases whenL_no (n := size) ok with g | g
    · rw [g]; rfl
    · rw [if_neg (by omega), if_neg (by omega)]
      exact whenG_F h0 p _ fun y hy => h y (List.mem_cons_of_mem _ hy)
theorem whenG_is (l : List Nd) (n size : Int) : whenG l size (pathOf l n) (-1) = whenCan l n size := by
  unfold pathOf whenCan
  by_cases hin : tin l n = true
  · rw [if_pos hin]
    obtain ⟨hok, h0, h1⟩ := tin_iff.1 hin
    have hb : ∀ x ∈ path l n, (ndAt l x.toNat).pz.ok = true := fun x hx => by
      have := path_mem hok (by omega) h1 x hx
      exact (tok_at hok (by omega)).1
    by_cases hs : 0 ≤ size
    · rw [if_pos ⟨hin, hs⟩, whenG_F hs _ _ hb]
      have hp := path_next hok h0 h1
      rw [hp] at hb ⊢
      have ok := hb n (List.mem_cons_self ..)
      unfold whenF
      rcases whenL_no (n := size) ok with g | g
      · rw [g]; rfl
      · rw [if_neg (by omega), if_neg (by omega)]
        congr 1
        omega
    · rw [if_neg (fun g => hs g.2), path_next hok h0 h1]
      unfold whenG
      rw [if_pos]
      unfold Pz.when
      rw [if_neg (fun g => hs g.2)]
  · rw [if_neg hin, if_neg (fun g => hin g.1)]
    rfl
theorem pathOf_spots (l : List Nd) (n : Int) : ∀ i, i < (pathOf l n).length → ∃ k : Nat, (pathOf l n)[i]?.getD 0 = (k : Int) ∧ k < l.length := by
  intro i hi
  unfold pathOf at hi ⊢
  by_cases hin : tin l n = true
  · rw [if_pos hin] at hi ⊢
    obtain ⟨hok, h0, h1⟩ := tin_iff.1 hin
    have hm := path_mem hok (by omega) h1 ((path l n)[i]) (List.getElem_mem hi)
    rw [List.getElem?_eq_getElem hi, Option.getD_some]
    exact ⟨((path l n)[i]).toNat, by omega, by omega⟩
  · rw [if_neg hin] at hi
    simp at hi
set_option maxHeartbeats 3200000 in
set_option maxRecDepth 100000 in
theorem implWhenCan (l : List Nd) (a : Option Addr) (cap : Nat) (n : Int) (size : Int) (w : World) (hT : l.length ≤ 1048576) (hc : l.length ≤ cap) (hcn : a = none → cap = 0) (_h63 : size ≤ 9223372036854775807) (h : Hid (NdsAt w a l)) :
    Calls Try.prog 21 #[.slice a l.length cap, .int .i64 n, .int .i64 size] w fun e w' => e = .returned (.int .i64 (whenCan l n size)) ∧ Below w.heap.size w w' := by
  have A1 := fun (_ : Nat) => implPathOf a cap l n w hT hc hcn h
  have Hs : Hid (∀ i, i < (pathOf l n).length → ∃ k : Nat, (pathOf l n)[i]?.getD 0 = (k : Int) ∧ k < l.length) := pathOf_spots l n
  have Hl : Hid ((pathOf l n).length ≤ 1048576) := Nat.le_trans (pathOf_len l n) (by decide)
  have Hw : Hid (∀ k w, k < l.length → Calls Try.prog 47 #[(ndAt l k).pz.val, .int .i64 size] w fun e w' => e = .returned (.int .i64 ((ndAt l k).pz.when size)) ∧ Below w.heap.size w w') := fun k w hk => implWhen (ndAt l k).pz size w
  obtain ⟨R, hR⟩ : ∃ R, whenCan l n size = R := ⟨_, rfl⟩
  have St : Hid (whenG l size ((pathOf l n).drop 0) (-1) = R) := by show whenG l size ((pathOf l n).drop 0) (-1) = R; rw [List.drop_zero, whenG_is, hR]
  rw [hR]
  clear hR
  generalize pathOf l n = P at A1 Hs Hl St
  obtain ⟨len, hlen⟩ : ∃ m, l.length = m := ⟨_, rfl⟩
  obtain ⟨pn, hpn⟩ : ∃ m, P.length = m := ⟨_, rfl⟩
  rw [hlen] at A1 Hs Hw hT ⊢
  rw [hpn] at Hs Hl
  have hP : pn ≤ 1048576 := Hl.out
  have Hlen : Hid (l.length = len ∧ P.length = pn) := ⟨hlen, hpn⟩
  have A1' : Hid _ := A1
  clear A1 hlen hpn Hl hc hcn
  go_enter Try.func21, Try.ntmps21
  go_wp2_with fail
  refine (A1'.out 0).mono ?_
  rintro e w1 ⟨⟨v, rfl, r⟩, q⟩
  obtain ⟨a2, c2, rfl⟩ := r.shape
  have I : Hid (IntsAt w1 a2 P ∧ NdsAt w1 a l ∧ Below w.heap.size w w1) := ⟨r.ints, h.out.below q, q⟩
  rw [Hlen.out.2]
  clear r q A1' h
  go_wp2
  go_loopw [7, 15] (fun u s wr => ∃ (i : Nat) (t : Int), i ≤ pn ∧ s = .int .i64 i ∧ u = .int .i64 t ∧ Hid (whenG l size (P.drop i) t = R ∧ Below w1.heap.size w1 wr)) (fun _ s _ => pn - (intOf s).toNat)
  case atStart => exact ⟨0, -1, Nat.zero_le _, rfl, rfl, St.out, Below.refl _ _⟩
  case round =>
    obtain ⟨i, t, hi, rfl, rfl, HK⟩ := hrel
    by_cases hlt : i < pn
    case neg =>
      obtain rfl : i = pn := by omega
      have e : t = R := by
        have := HK.out.1
        rw [List.drop_eq_nil_of_le (by rw [Hlen.out.2]; omega)] at this
        exact this
      subst e
      go_wp2
      go_ret
      exact ⟨rfl, I.out.2.2.trans (HK.out.2.mono I.out.2.2.size)⟩
    have hlt' : (i : Int) < (pn : Int) := by omega
    obtain ⟨b2, o2, ha2, -, q0⟩ := (I.out.1.below HK.out.2) i (by rw [Hlen.out.2]; exact hlt)
    obtain ⟨k, hk1, hk2⟩ := Hs.out i hlt
    obtain ⟨b1, o1, ha1, -, -⟩ := (I.out.2.1.below HK.out.2) k (by rw [Hlen.out.1]; exact hk2)
    subst ha2; subst ha1
    obtain ⟨-, c1, c2, c3, c4⟩ := (I.out.2.1.below HK.out.2).cells (k := k) (by rw [Hlen.out.1]; exact hk2)
    rw [hk1] at q0
    have Fx := HK.out.1
    rw [whenG_at P i t (by rw [Hlen.out.2]; exact hlt), hk1, Int.toNat_natCast] at Fx
    have Cw := fun w => Hw.out k w hk2
    have HB : Hid (Below w1.heap.size w1 wr) := HK.out.2
    generalize (ndAt l k).pz.when size = z at Fx Cw
    generalize (ndAt l k).pz = x at c1 c2 c3 c4 Cw
    obtain ⟨x1, x2, x3, x4⟩ := x
    simp only [Pz.val] at c1 c2 c3 c4 Cw
    have Cw' : Hid _ := Cw
    have HF : Hid _ := Fx
    have hkc : (k : Int) < (len : Int) := by omega
    clear Cw Fx HK hk1
    go_wp2_with fail
    refine (Cw'.out _).mono ?_
    rintro e w2 ⟨rfl, q⟩
    have B2 : Hid (Below w1.heap.size w1 w2) := HB.out.trans (q.mono HB.out.size)
    clear q Cw' HB c1 c2 c3 c4 q0
    by_cases hz : z = -1
    · have e : R = -1 := by have := HF.out; rw [if_pos hz] at this; exact this.symm
      subst e
      subst hz
      clear HF
      go_wp2
      go_ret
      exact ⟨rfl, I.out.2.2.trans (B2.out.mono I.out.2.2.size)⟩
    · have G : Hid (whenG l size (P.drop (i + 1)) (max t z) = R) := by have := HF.out; rw [if_neg hz] at this; exact this
      clear HF
      have hz' : (z == -1) = false := by simpa using hz
      by_cases ht : t < z
      · have e : max t z = z := by omega
        rw [e] at G
        go_wp2
        go_roundw
        case rel => exact ⟨i + 1, z, by omega, by go_num, by first | rfl | (rw [if_pos ht]) | (rw [if_neg (by omega)]), G.out, B2.out⟩
        case measure => simp [intOf]; omega
      · have e : max t z = t := by omega
        rw [e] at G
        go_wp2
        go_roundw
        case rel => exact ⟨i + 1, t, by omega, by go_num, by first | rfl | (rw [if_neg ht]) | (rw [if_pos (by omega)]), G.out, B2.out⟩
        case measure => simp [intOf]; omega
end Go.Proofs.Ytfdapmchpikfiaa
