/-
  What the laws do to see whose memory lists of records with a list (Host) are: numbers put into them and looked for again. By the verifier, by program.
-/
import Derived.Test.YtlfklpencobgmaaHsPlain
import Derived.Test.YtlfklpencobgmaaIntG
namespace Go.Proofs.Ytlfklpencobgmaa
open Go.RowKit

/-- The one at a place with its numbers, which begin at s in the first one. -/
def hsMk (s : Int) (l : List Hs) (i : Nat) : Hs := ⟨s + (i : Int) + (hsSum l i : Int), mks (s + (i : Int) + (hsSum l i : Int) + 1) (hsAt l i).flows (hsAt l i).flows.length⟩
/-- The first j of them with their numbers. -/
def hsMks (s : Int) (l : List Hs) (j : Nat) : List Hs := (List.range l.length).map fun i => if i < j then hsMk s l i else hsAt l i
theorem hsMks_length (s : Int) (l : List Hs) (j : Nat) : (hsMks s l j).length = l.length := by simp [hsMks]
theorem hsMks_at (s : Int) (l : List Hs) (j : Nat) {i : Nat} (hi : i < l.length) : hsAt (hsMks s l j) i = if i < j then hsMk s l i else hsAt l i := by
  simp [hsAt, hsMks, hi]
theorem hsMk_length (s : Int) (l : List Hs) (i : Nat) : (hsMk s l i).flows.length = (hsAt l i).flows.length := mks_length _ _ _ (Nat.le_refl _)
theorem hsMks_len (s : Int) (l : List Hs) (j : Nat) {i : Nat} (hi : i < l.length) : (hsAt (hsMks s l j) i).flows.length = (hsAt l i).flows.length := by
  rw [hsMks_at s l j hi]
  split
  · exact hsMk_length s l i
  · rfl
theorem hsMks_zero (s : Int) (l : List Hs) : hsMks s l 0 = l := by
  apply List.ext_getElem
  · simp [hsMks]
  · intro i h1 h2
    simp [hsMks, hsAt, List.getElem?_eq_getElem h2]
theorem hsMks_next (s : Int) (l : List Hs) {j : Nat} (hj : j < l.length) : (hsMks s l j).set j (hsMk s l j) = hsMks s l (j + 1) := by
  apply List.ext_getElem?
  intro i
  by_cases hi : i < l.length
  · by_cases e : i = j
    · subst e
      rw [List.getElem?_set_self (by rw [hsMks_length]; exact hi)]
      simp [hsMks, hi]
    · rw [List.getElem?_set_ne (fun h => e h.symm)]
      simp only [hsMks, List.getElem?_map, List.getElem?_range hi, Option.map_some]
      by_cases hlt : i < j
      · rw [if_pos hlt, if_pos (by omega)]
      · rw [if_neg hlt, if_neg (by omega)]
  · rw [List.getElem?_eq_none (by rw [List.length_set, hsMks_length]; omega), List.getElem?_eq_none (by rw [hsMks_length]; omega)]
/-- Some cell of the records or of one of the lists. -/
def hsHits (v : Value) (rs : List Hsr) (l : List Hs) (k o : Nat) : Prop := Hits v (l.length * 2) k o ∨ ∃ i, i < l.length ∧ Hits (hsrAt rs i).hd (hsAt l i).flows.length k o

set_option maxHeartbeats 3200000 in
set_option maxRecDepth 100000 in
theorem markHss (s : Int) (s0 : 0 ≤ s) (s1 : s ≤ 549755813888) (b t : Nat) (v : Value) (l : List Hs) (hT : l.length ≤ 1048576) (hS : hsSum l l.length ≤ 1048576) (w : World) (H : Hid (HssIn b t w v l)) :
    Calls Try.prog 36 #[v, .int .i64 s] w fun e w' => e = .returned (.int .i64 (s + (l.length : Int) + (hsSum l l.length : Int))) ∧ HssIn b t w' v (hsMks s l l.length) ∧ Turn (fun k _ => b ≤ k ∧ k < t) w w' := by
  obtain ⟨rs, H0⟩ := H.out
  clear H
  obtain ⟨a, cap, rfl⟩ := H0.outer.shape
  obtain ⟨len, hlen⟩ : ∃ n, l.length = n := ⟨_, rfl⟩
  rw [hlen] at hT hS ⊢
  have Hlen : Hid (l.length = len) := hlen
  have H : Hid (HsV b t w (.slice a len cap) rs l) := by rw [← hlen]; exact H0
  clear hlen H0
  go_enter Try.func36, Try.ntmps36
  go_wp2
  go_loopw [1, 5] (fun kk i wr => ∃ (j : Nat) (kv : Int), j ≤ len ∧ i = .int .i64 j ∧ kk = .int .i64 kv ∧ Hid (kv = s + (j : Int) + (hsSum l j : Int)) ∧ Hid (∃ rs, HsV b t wr (.slice a len cap) rs (hsMks s l j) ∧ Turn (fun k _ => b ≤ k ∧ k < t) w wr)) (fun _ i _ => len - (intOf i).toNat)
  case atStart => exact ⟨0, s, Nat.zero_le _, rfl, rfl, by show s = s + ((0 : Nat) : Int) + ((hsSum l 0 : Nat) : Int); rw [hsSum_zero]; simp, rs, by rw [hsMks_zero]; exact H.out, Turn.refl _ _⟩
  case round =>
    clear H
    obtain ⟨j, kv, hj, rfl, rfl, Hkv, H2⟩ := hrel
    obtain ⟨rs, H2⟩ : ∃ rs, Hid (HsV b t wr (.slice a len cap) rs (hsMks s l j) ∧ Turn (fun k _ => b ≤ k ∧ k < t) w wr) := H2.out
    by_cases hlt : j < len
    · have hjl : j < l.length := by rw [Hlen.out]; exact hlt
      have hml := hsMks_length s l j
      have hrl : rs.length = len := by rw [H2.out.1.len, hml, Hlen.out]
      have hcl := hscells_length rs
      have hout : SlIn b t wr (.slice a len cap) len (hscells rs) := by
        have := H2.out.1.outer
        rw [hml, Hlen.out] at this
        exact this
      obtain ⟨x, off, ha, h1, h2, h3⟩ := SlIn.some hout (by intro e; rw [e] at hcl; simp at hcl; omega)
      subst ha
      have hs := hsSum_succ hjl
      have hm := hsSum_mono (l := l) (i := j + 1) (j := len) (by omega) (by rw [Hlen.out]; exact Nat.le_refl _)
      have k0 : 0 ≤ kv := by have := Hkv.out; omega
      have k1 : kv ≤ 1099511000000 := by have := Hkv.out; omega
      have em : hsAt (hsMks s l j) j = hsAt l j := by rw [hsMks_at s l j hjl, if_neg (by omega)]
      obtain ⟨i1, e1, ev, -⟩ := H2.out.1.cap j (by rw [hml]; exact hjl)
      rw [em] at ev
      -- the numbers
      have hput := hout
      have hput := SlIn.put hput (j * 2) (by omega) (.int .i64 (kv))
      have hset := hscells_set rs j ⟨kv, (hsrAt rs j).hd⟩
      simp only at hset
      have hlast : ∀ (L : List Value), L[j * 2 + 1]? = some (hsrAt rs j).hd → L.set (j * 2 + 1) (hsrAt rs j).hd = L := fun L hL => by
        obtain ⟨hb, e⟩ := List.getElem?_eq_some_iff.1 hL
        apply List.ext_getElem?
        intro i
        by_cases e1 : i = j * 2 + 1
        · subst e1; rw [List.getElem?_set_self hb, hL]
        · rw [List.getElem?_set_ne (fun h => e1 h.symm)]
      have hgl := (hscells_get rs j (by omega)).2
      rw [hlast _ (by rw [List.getElem?_set_ne (by omega)]; exact hgl)] at hset
      rw [hset] at hput
      have z0 := (SlIn.cells hout (j * 2) (by omega)).2
      have y0 := (SlIn.cells hout (j * 2) (by omega)).1
      have yh := (SlIn.cells hout (j * 2 + 1) (by omega)).1
      rw [hgl, Option.getD_some, ev] at yh
      simp only [← Nat.add_assoc] at hput yh z0 y0
      generalize hW1 : (wr.setCell ⟨x, off + j * 2, none⟩ (.int .i64 (kv))) = w1 at hput
      have tn : Turn (Hits (.slice (some ⟨x, off, none⟩) len cap) (len * 2)) wr w1 := by
        rw [← hW1]
        refine ((turn_set _ _ _ _).wide ?_)
        all_goals (rintro k o ⟨rfl, rfl⟩; exact ⟨off, len, cap, rfl, by omega, by omega⟩)
      have V1 : HsV b t w1 (.slice (some ⟨x, off, none⟩) len cap) (rs.set j ⟨kv, (hsrAt rs j).hd⟩) ((hsMks s l j).set j ⟨kv, (hsAt l j).flows⟩) := by
        refine H2.out.1.nums (r' := ⟨kv, (hsAt l j).flows⟩) (by rw [hml]; exact hjl) (by rw [em]) (by rw [hml, Hlen.out]; exact hput) (by rw [hml, Hlen.out]; exact tn)
      have hrow := V1.row j (by rw [List.length_set, hml]; exact hjl)
      rw [hsrAt_set (by omega), hsAt_set (by rw [hml]; exact hjl)] at hrow
      simp only at hrow
      have C1 := markIntsG (kv + 1) (by omega) (by omega) b t (hsrAt rs j).hd (hsAt l j).flows (by omega) w1 hrow
      have St : Hid (∀ w', IntIn b t w' (hsrAt rs j).hd (mks (kv + 1) (hsAt l j).flows (hsAt l j).flows.length) → Turn (Hits (hsrAt rs j).hd (hsAt l j).flows.length) w1 w' → ∃ rs, HsV b t w' (.slice (some ⟨x, off, none⟩) len cap) rs (hsMks s l (j + 1)) ∧ Turn (fun k _ => b ≤ k ∧ k < t) w w') := fun w' q1 q2 => by
        have hin := fun k o hh => SlIn.in hrow (k := k) (o := o) (by simpa using hh)
        have hin1 := fun k o hh => SlIn.in hout (k := k) (o := o) (by rw [hcl, hrl]; exact hh)
        refine ⟨rs.set j ⟨kv, (hsrAt rs j).hd⟩, ?_, H2.out.2.trans ((tn.wide hin1).trans (q2.wide hin))⟩
        have V2 := V1.list (j := j) (r' := ⟨kv, mks (kv + 1) (hsAt l j).flows (hsAt l j).flows.length⟩) (by rw [List.length_set, hml]; exact hjl) (by rw [hsAt_set (by rw [hml]; exact hjl)]) (by rw [hsAt_set (by rw [hml]; exact hjl)]; exact mks_length _ _ _ (Nat.le_refl _)) (by rw [hsrAt_set (by omega)]; exact q1) (by rw [hsrAt_set (by omega), hsAt_set (by rw [hml]; exact hjl)]; exact q2)
        rw [List.set_set] at V2
        have e : (⟨kv, mks (kv + 1) (hsAt l j).flows (hsAt l j).flows.length⟩ : Hs) = hsMk s l j := by
          unfold hsMk
          have := Hkv.out
          rw [show kv + 1 = s + (j : Int) + (hsSum l j : Int) + 1 by omega, show kv = s + (j : Int) + (hsSum l j : Int) by omega]
        rw [e, hsMks_next s l hjl] at V2
        exact V2
      have Hs : Hid (hsSum l (j + 1) = hsSum l j + (hsAt l j).flows.length) := hs
      rw [ev] at C1 St
      have yh1 : ((wr.setCell ⟨x, off + j * 2, none⟩ (.int .i64 (kv)))).cell? ⟨x, off + j * 2 + 1, none⟩ = some (.slice i1 (hsAt l j).flows.length e1) := by
        rw [World.cell?_setCell_other _ _ _ _ (by simp <;> omega)]
        exact yh
      generalize mks (kv + 1) (hsAt l j).flows (hsAt l j).flows.length = ml at C1 St
      generalize (hsAt l j).flows.length = n at C1 St Hs yh1 yh ev hs
      generalize (hscells rs)[j * 2]?.getD undef = u0 at y0
      have HW1 : Hid (_ = w1) := hW1
      have hsz : w1.heap.size = wr.heap.size := by rw [← hW1]; simp [World.setCell]
      clear hrow hm hout hput hset hlast hgl hcl V1 tn em yh ev hs hsz hW1 h1 h2 h3
      have hlt' : (j : Int) < (len : Int) := by omega
      go_wp2_with fail
      rw [HW1.out]
      refine C1.mono ?_
      rintro e w2 ⟨rfl, q1, q2⟩
      have H3 : Hid (∃ rs, HsV b t w2 (.slice (some ⟨x, off, none⟩) len cap) rs (hsMks s l (j + 1)) ∧ Turn (fun k _ => b ≤ k ∧ k < t) w w2) := St.out w2 q1 q2
      clear q1 q2 yh1 St C1 HW1 z0 y0
      go_wp2
      go_roundw
      case rel =>
        refine ⟨j + 1, _, by omega, by go_num, rfl, ?_, H3⟩
        show _ = s + ((j + 1 : Nat) : Int) + ((hsSum l (j + 1) : Nat) : Int)
        rw [Hs.out, Hkv.out]
        push_cast
        omega
      case measure => simp [intOf]; omega
    · obtain rfl : j = len := by omega
      go_wp2
      go_ret
      exact ⟨by rw [← Hkv.out]; rfl, ⟨rs, H2.out.1⟩, H2.out.2⟩

set_option maxHeartbeats 3200000 in
set_option maxRecDepth 100000 in
theorem heldHss (s : Int) (s0 : 0 ≤ s) (s1 : s ≤ 549755813888) (a : Option Addr) (cap : Nat) (l : List Hs) (hT : l.length ≤ 1048576) (hS : hsSum l l.length ≤ 1048576) (w : World) (H : Hid (HssAt w a (hsMks s l l.length))) :
    Calls Try.prog 37 #[.slice a l.length cap, .int .i64 s] w fun e w' => e = .returned (.int .i64 (s + (l.length : Int) + (hsSum l l.length : Int))) ∧ w' = w := by
  obtain ⟨len, hlen⟩ : ∃ n, l.length = n := ⟨_, rfl⟩
  rw [hlen] at hT hS H ⊢
  have Hlen : Hid (l.length = len) := hlen
  clear hlen
  go_enter Try.func37, Try.ntmps37
  go_wp2
  go_loop [1, 5] (fun kk i => ∃ (j : Nat) (kv : Int), j ≤ len ∧ i = .int .i64 j ∧ kk = .int .i64 kv ∧ Hid (kv = s + (j : Int) + (hsSum l j : Int))) (fun _ i => len - (intOf i).toNat)
  case atStart => exact ⟨0, s, Nat.zero_le _, rfl, rfl, by show s = s + ((0 : Nat) : Int) + ((hsSum l 0 : Nat) : Int); rw [hsSum_zero]; simp⟩
  case round =>
    obtain ⟨j, kv, hj, rfl, rfl, Hkv⟩ := hrel
    by_cases hlt : j < len
    · have hjl : j < l.length := by rw [Hlen.out]; exact hlt
      obtain ⟨x, off, i1, e1, ha, hb, ⟨c0, c1⟩, hr, -⟩ := H.out j (by rw [hsMks_length]; exact hjl)
      subst ha
      rw [hsMks_at s l _ hjl, if_pos hlt] at c0 c1 hr
      have hs := hsSum_succ hjl
      have hm := hsSum_mono (l := l) (i := j + 1) (j := len) (by omega) (by rw [Hlen.out]; exact Nat.le_refl _)
      have k0 : 0 ≤ kv := by have := Hkv.out; omega
      have k1 : kv ≤ 1099511000000 := by have := Hkv.out; omega
      have hkv := Hkv.out
      rw [hsMk_length] at c1
      unfold hsMk at c0 hr
      simp only at c0 hr
      rw [show s + (j : Int) + (hsSum l j : Int) + 1 = kv + 1 by omega] at hr
      rw [show s + (j : Int) + (hsSum l j : Int) = kv by omega] at c0
      clear hkv
      have C1 := heldIntsF (kv + 1) (by omega) (by omega) i1 e1 (hsAt l j).flows (by omega) w hr
      have Hs : Hid (hsSum l (j + 1) = hsSum l j + (hsAt l j).flows.length) := hs
      generalize (hsAt l j).flows.length = n at C1 Hs c1 hs
      have k2 : ¬ kv + 1 + (n : Int) < 0 := by omega
      clear hr hm hs
      have hlt' : (j : Int) < (len : Int) := by omega
      go_wp2_with fail
      refine C1.mono ?_
      rintro e w2 ⟨rfl, hw⟩
      have hw := hw.symm
      subst hw
      generalize hkn : kv + 1 + (n : Int) = kn at k2 ⊢
      have Hkn : Hid (kn = kv + 1 + (n : Int)) := hkn.symm
      clear hkn
      go_wp2
      go_round
      case rel =>
        refine ⟨j + 1, _, by omega, by go_num, rfl, ?_⟩
        show _ = s + ((j + 1 : Nat) : Int) + ((hsSum l (j + 1) : Nat) : Int)
        rw [Hs.out, Hkn.out, Hkv.out]
        push_cast
        omega
      case measure => simp [intOf]; omega
    · obtain rfl : j = len := by omega
      go_wp2
      go_ret
      exact ⟨by rw [← Hkv.out]; rfl, rfl⟩
end Go.Proofs.Ytlfklpencobgmaa
