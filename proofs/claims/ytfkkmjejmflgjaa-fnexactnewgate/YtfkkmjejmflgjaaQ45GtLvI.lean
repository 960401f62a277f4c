import Derived.Test.YtfkkmjejmflgjaaQ21GtNewFn
import Derived.Test.YtfkkmjejmflgjaaQ44NdOkI
/-
  Which gates are right, part by part as the program asks it. By the verifier.
-/
namespace Go.Proofs.Ytfkkmjejmflgjaa
open Go.RowKit

def lvB (ls : List Int) (n i : Nat) : Bool := decide (0 ≤ ls[i]?.getD 0) && (decide (ls[i]?.getD 0 < (n : Int)) && (decide (i = 0) || decide (ls[i - 1]?.getD 0 < ls[i]?.getD 0)))
/-- Leaves of a tree of so many. -/
def lvOk (ls : List Int) (n : Nat) : Bool := decide (1 ≤ ls.length) && (decide (ls.length ≤ 8) && (List.range ls.length).all (lvB ls n))
/-- Items and sizes, one by one. -/
def keptB (ln : Ln) (l : List It) (s : List Int) : Bool := decide (l.length = s.length) && (List.range l.length).all fun k => decide (ln.on (itAt l k).size = s[k]?.getD 0)
def Gt.kept (g : Gt) : Bool := decide (g.rows.lists.length = g.leaves.length) && (decide (g.steers.length = g.leaves.length) && (decide (g.fair.flows.length = g.leaves.length) && (List.range g.rows.lists.length).all fun i => keptB g.ln (izAt g.rows.lists i) (fwAt g.fair.flows i).sizes))
end Go.Proofs.Ytfkkmjejmflgjaa

/-
  A new gate is right where its line, its tree and its leaves are; its lists as memory. By the verifier.
-/
namespace Go.Proofs.Ytfkkmjejmflgjaa
open Go.RowKit

theorem newB_is (l : Ln) (t : List Nd) (ls : List Int) : newB l t ls = (l.ok && (tok t && lvOk ls t.length)) := by
  have e1 : ∀ (n i : Nat), izAt (List.replicate n ([] : List It)) i = [] := fun n i => by
    unfold izAt
    by_cases h : i < n
    · rw [List.getElem?_replicate_of_lt h]; rfl
    · rw [List.getElem?_eq_none (by simp; omega)]; rfl
  have e2 : ∀ (n i : Nat), i < n → srAt (List.replicate n (⟨20, 0, 0⟩ : Sr)) i = ⟨20, 0, 0⟩ := fun n i h => by
    unfold srAt
    rw [List.getElem?_replicate_of_lt h]; rfl
  have e3 : ∀ (n i : Nat), i < n → fwAt (List.replicate n (⟨1, 0, []⟩ : Fw)) i = ⟨1, 0, []⟩ := fun n i h => by
    unfold fwAt
    rw [List.getElem?_replicate_of_lt h]; rfl
  have hz : ∀ n, n ≤ 8 → 1 ≤ n → (⟨100, List.replicate n []⟩ : Rw).ok = true := by decide
  have hf : ∀ n, n ≤ 8 → 1 ≤ n → (⟨0, List.replicate n ⟨1, 0, []⟩⟩ : Fs).ok = true := by decide
  rw [Bool.eq_iff_iff]
  simp only [Bool.and_eq_true]
  constructor
  · intro h
    obtain ⟨hh, hl⟩ := Gt.ok_iff.1 h
    obtain ⟨k1, -, -, k4, k5, -⟩ := Gt.head_iff.1 hh
    refine ⟨k1, k4, ?_⟩
    unfold lvOk
    simp only [Bool.and_eq_true, decide_eq_true_eq, List.all_eq_true, List.mem_range]
    refine ⟨k5.1, k5.2, fun i hi => ?_⟩
    obtain ⟨a, b, -⟩ := Gt.leaf_iff.1 (hl i hi)
    unfold lvB
    simp only [Bool.and_eq_true, Bool.or_eq_true, decide_eq_true_eq]
    exact ⟨a.1, a.2, b⟩
  · rintro ⟨h1, h2, h3⟩
    unfold lvOk at h3
    simp only [Bool.and_eq_true, decide_eq_true_eq, List.all_eq_true, List.mem_range] at h3
    obtain ⟨n1, n8, hv⟩ := h3
    refine Gt.ok_iff.2 ⟨Gt.head_iff.2 ⟨h1, by show rtsOk [] = true; decide, by show rusOk [] = true; decide, h2, ⟨n1, n8⟩, hz _ n8 n1, List.length_replicate, List.length_replicate, hf _ n8 n1, List.length_replicate, by show (1 : Int) ≤ 1 ∧ (1 : Int) ≤ 1000000; omega, by show (0 : Int) ≤ 1; omega, by show (1 : Int) ≤ 1048575; omega⟩, fun i hi => Gt.leaf_iff.2 ?_⟩
    have hi' : i < ls.length := hi
    have hb := hv i hi'
    unfold lvB at hb
    simp only [Bool.and_eq_true, Bool.or_eq_true, decide_eq_true_eq] at hb
    refine ⟨⟨hb.1, hb.2.1⟩, hb.2.2, ?_, ?_, fun k hk => ?_⟩
    · show (srAt (List.replicate ls.length ⟨20, 0, 0⟩) i).ok = true
      rw [e2 _ _ hi']
      decide
    · show (fwAt (List.replicate ls.length ⟨1, 0, []⟩) i).sizes.length = (izAt (List.replicate ls.length []) i).length
      rw [e3 _ _ hi', e1]
      rfl
    · have hk' : k < (izAt (List.replicate ls.length ([] : List It)) i).length := hk
      rw [e1] at hk'
      cases hk'
/-- Flows all alike, without sizes. -/
theorem fwRepG {base n : Nat} {v : Value} {w : World} (h : w.ownsRow base 55 3 v n ((List.replicate n (⟨1, 0, .slice none 0 0⟩ : Fwr)).flatMap Fwr.cells)) : FwG base v (List.replicate n ⟨1, 0, .slice none 0 0⟩) (List.replicate n ⟨1, 0, []⟩) w := by
  have e3 : ∀ i, i < n → fwAt (List.replicate n (⟨1, 0, []⟩ : Fw)) i = ⟨1, 0, []⟩ := fun i h => by
    unfold fwAt
    rw [List.getElem?_replicate_of_lt h]; rfl
  have e4 : ∀ i, i < n → fwrAt (List.replicate n (⟨1, 0, .slice none 0 0⟩ : Fwr)) i = ⟨1, 0, .slice none 0 0⟩ := fun i h => by
    unfold fwrAt
    rw [List.getElem?_replicate_of_lt h]; rfl
  refine ⟨by rw [List.length_replicate]; exact h, by simp, fun i hi => ?_, fun i hi => ?_, fun i j k hi hj hne h1 => ?_⟩
  · rw [List.length_replicate] at hi
    rw [e3 i hi, e4 i hi]
    exact ⟨rfl, rfl⟩
  · rw [List.length_replicate] at hi
    rw [e3 i hi, e4 i hi]
    exact World.ownsRow_nil _ _ _ _
  · rw [List.length_replicate] at hi
    rw [e4 i hi] at h1
    cases h1
end Go.Proofs.Ytfkkmjejmflgjaa

/-
  The walk of the program's leavesOk. By the verifier.
-/
namespace Go.Proofs.Ytfkkmjejmflgjaa
open Go.RowKit

theorem lv_hit {ls : List Int} {n k : Nat} (h : k < ls.length) (g : lvB ls n k = false) : (List.range ls.length).all (lvB ls n) = false := by
  rw [List.all_eq_false]
  exact ⟨k, List.mem_range.2 h, by rw [g]; decide⟩
theorem lv_succ (ls : List Int) (n k : Nat) : (List.range (k + 1)).all (lvB ls n) = ((List.range k).all (lvB ls n) && lvB ls n k) := by
  simp [List.range_succ]

set_option maxHeartbeats 3200000 in
set_option maxRecDepth 100000 in
theorem implLeavesOk (ls : List Int) (a : Option Addr) (c n : Nat) (w : World) (hn : n ≤ 1048576) (hT : ls.length ≤ 1048576) (h : Hid (IntsAt w a ls)) :
    Calls Try.prog 21 #[.slice a ls.length c, .int .i64 (n : Int)] w fun e w' => e = .returned (.bool (lvOk ls n)) ∧ Below w.heap.size w w' := by
  have Hv : Hid (lvOk ls n = (inB 1 8 (ls.length : Int) && (List.range ls.length).all (lvB ls n))) := by
    show lvOk ls n = _
    unfold lvOk
    rw [← Bool.and_assoc]
    congr 1
    rw [Bool.eq_iff_iff]
    simp only [Bool.and_eq_true, decide_eq_true_eq, inB_true]
    omega
  have Hh : Hid (∀ k, k < ls.length → lvB ls n k = false → (List.range ls.length).all (lvB ls n) = false) := fun k hk g => lv_hit hk g
  have Hs : Hid (∀ k, (List.range (k + 1)).all (lvB ls n) = ((List.range k).all (lvB ls n) && lvB ls n k)) := fun k => lv_succ ls n k
  have Hb : Hid (∀ k, lvB ls n k = (inB 0 ((n : Int) - 1) (ls[k]?.getD 0) && (decide (k = 0) || decide (ls[k - 1]?.getD 0 < ls[k]?.getD 0)))) := fun k => by
    unfold lvB
    rw [← Bool.and_assoc]
    congr 1
    rw [Bool.eq_iff_iff]
    simp only [Bool.and_eq_true, decide_eq_true_eq, inB_true]
    omega
  obtain ⟨len, hlen⟩ : ∃ m, ls.length = m := ⟨_, rfl⟩
  have Hlen : Hid (ls.length = len) := hlen
  rw [hlen] at hT Hv Hh ⊢
  clear hlen
  have F := fun B w hB => implFromOne 8 (len : Int) B w hB
  have AP := fun p w => implPlace n p w hn
  generalize lvOk ls n = R at Hv ⊢
  generalize inB 1 8 (len : Int) = ok at F Hv
  have F' : Hid _ := F
  have AP' : Hid _ := AP
  clear F AP
  have N1 : Hid (Below w.heap.size w (w.alloc (.cells #[.int .i64 (len : Int)] 2))) := (Below.refl _ _).alloc (Nat.le_refl _) _
  go_enter Try.func21, Try.ntmps21
  go_wp2_with fail
  refine (F'.out _ w rfl).mono ?_
  rintro e w1 ⟨rfl, hw1⟩
  have B1 : Hid (Below w.heap.size w w1) := by rw [hw1]; exact N1.out
  clear hw1 F' N1
  cases ok
  · have e1 : R = false := by rw [Hv.out]; rfl
    subst e1
    go_wp2
    go_ret
    exact ⟨rfl, B1.out⟩
  have e1 : R = (List.range len).all (lvB ls n) := by rw [Hv.out, Bool.true_and]
  have HR : Hid _ := e1
  clear e1 Hv
  go_wp2
  go_loopw [5, 6, 14] (fun _ _ i wr => ∃ k : Nat, k ≤ len ∧ i = .int .i64 k ∧ Hid ((List.range k).all (lvB ls n) = true) ∧ Hid (Below w.heap.size w wr)) (fun _ _ i _ => len - (intOf i).toNat)
  case atStart => exact ⟨0, Nat.zero_le _, rfl, rfl, B1.out⟩
  case round =>
    obtain ⟨k, hk, rfl, hg, HB⟩ := hrel
    by_cases hlt : k < len
    · have hlt' : (k : Int) < (len : Int) := by omega
      have Rr : Hid (IntsAt wr a ls) := h.out.below HB.out
      obtain ⟨b1, o1, ha1, hb1, c0⟩ := Rr.out k (by rw [Hlen.out]; exact hlt)
      subst ha1
      have AP := fun w => AP'.out (ls[k]?.getD 0) w
      have hb := Hb.out k
      have hh := Hh.out k hlt
      have hs := Hs.out k
      rw [hg.out, Bool.true_and] at hs
      have P1 : Hid (∀ j, j < k → ∀ w2, Below wr.heap.size wr w2 → w2.cell? ⟨b1, o1 + j, none⟩ = some (.int .i64 (ls[j]?.getD 0))) := fun j hj w2 q => by
        obtain ⟨b2, o2, ha2, hb2, d0⟩ := (Rr.out.below q) j (by rw [Hlen.out]; omega)
        cases ha2
        exact d0
      generalize lvB ls n k = lb at hb hh hs
      have HS : Hid _ := hs
      have HH : Hid _ := hh
      have HP : Hid (∀ j, k = j + 1 → ls[k - 1]?.getD 0 = ls[j]?.getD 0) := fun j e => by rw [e]; rfl
      generalize ls[k - 1]?.getD 0 = y at hb HP
      generalize ls[k]?.getD 0 = x at c0 AP hb
      generalize inB 0 ((n : Int) - 1) x = pl at AP hb
      have AP2 : Hid _ := AP
      have HB2 : Hid _ := hb
      clear hb hh hs AP
      have Bx : Hid (Below wr.heap.size wr (wr.alloc (.cells #[.int .i64 x] 2))) := (Below.refl _ _).alloc (Nat.le_refl _) _
      go_wp2_with fail
      refine (AP2.out _).mono ?_
      rintro e w2 ⟨rfl, hw2⟩
      have B2 : Hid (Below wr.heap.size wr w2) := by rw [hw2]; exact Bx.out
      clear hw2 AP2 Bx
      cases pl
      · have e1 : R = false := by rw [HR.out]; exact HH.out (by rw [HB2.out]; rfl)
        subst e1
        have B3 : Hid (Below w.heap.size w w2) := HB.out.trans (B2.out.mono HB.out.size)
        go_wp2
        go_ret
        exact ⟨rfl, B3.out⟩
      by_cases hk0 : k = 0
      · subst hk0
        have hg2 : Hid ((List.range (0 + 1)).all (lvB ls n) = true) := by show _ = true; rw [HS.out, HB2.out]; rfl
        have B3 : Hid (Below w.heap.size w w2) := HB.out.trans (B2.out.mono HB.out.size)
        clear HS HB2 HH HP P1 B2
        go_wp2
        go_roundw
        case rel => exact ⟨1, by omega, by go_num, hg2, B3⟩
        case measure => simp [intOf]; omega
      obtain ⟨j, rfl⟩ : ∃ j, k = j + 1 := ⟨k - 1, by omega⟩
      have d0 := P1.out j (by omega) w2 B2.out
      rw [← HP.out j rfl] at d0
      have hb12 : b1 < w2.heap.size := Nat.lt_of_lt_of_le hb1 B2.out.size
      have B3 : Hid (Below w.heap.size w w2) := HB.out.trans (B2.out.mono HB.out.size)
      have hj0 : (0 : Int) ≤ (j : Int) := by omega
      have hjl : (j : Int) < (len : Int) := by omega
      have hj1 : (0 : Int) < (j : Int) + 1 := by omega
      by_cases hL : x ≤ y
      · have e1 : R = false := by rw [HR.out]; exact HH.out (by rw [HB2.out, decide_eq_false (by omega), decide_eq_false (by omega)]; rfl)
        subst e1
        clear HS HB2 HH HP P1 B2
        go_wp2
        go_ret
        exact ⟨rfl, B3.out⟩
      · have hg2 : Hid ((List.range (j + 1 + 1)).all (lvB ls n) = true) := by show _ = true; rw [HS.out, HB2.out, decide_eq_true (show y < x by omega)]; simp
        clear HS HB2 HH HP P1 B2
        go_wp2
        go_roundw
        case rel => exact ⟨j + 1 + 1, by omega, by go_num, hg2, B3⟩
        case measure => simp [intOf]; omega
    · obtain rfl : k = len := by omega
      have e1 : R = true := by rw [HR.out]; exact hg.out
      subst e1
      go_wp2
      go_ret
      exact ⟨rfl, HB.out⟩
end Go.Proofs.Ytfkkmjejmflgjaa
