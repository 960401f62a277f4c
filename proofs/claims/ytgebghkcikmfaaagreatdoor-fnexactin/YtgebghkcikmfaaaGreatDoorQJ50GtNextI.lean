import Derived.Test.YtgebghkcikmfaaaGreatDoorQJ11GtFacts
import Derived.Test.YtgebghkcikmfaaaGreatDoorQJ2RuMatch
import Derived.Test.YtgebghkcikmfaaaGreatDoorQJ44RwOkI
import Derived.Test.YtgebghkcikmfaaaGreatDoorQJ0NumUp
import Derived.Test.YtgebghkcikmfaaaGreatDoorQJ5StepRow
import Derived.Laws.ResultCell
import Derived.Laws.CopyOwn
import Derived.WalkKit
import Derived.WalkSpells
import Derived.WalkLawsBesides
import Derived.RegionTactic
import Derived.Test.YtgebghkcikmfaaaGreatDoorQJ48FsQuI
import Derived.BigQuiet
import Derived.Test.YtgebghkcikmfaaaGreatDoorQJ3SrPlain
import Derived.Shelf.Abstract
import Derived.Test.YtgebghkcikmfaaaGreatDoorQJ4GtSpot
import Derived.Test.YtgebghkcikmfaaaGreatDoorQJ21GtZero
import Derived.Test.YtgebghkcikmfaaaGreatDoorQJ43LnOn
import Derived.Test.YtgebghkcikmfaaaGreatDoorQJ42RuOrder
import Derived.Test.YtgebghkcikmfaaaGreatDoorQJ38RuDel
import Derived.Test.YtgebghkcikmfaaaGreatDoorQJ46SrHitI
import Derived.Test.YtgebghkcikmfaaaGreatDoorQJ18GtInS
import Derived.Deep.DeepCutAuto
import Derived.Test.YtgebghkcikmfaaaGreatDoorQJ47RwPushI
/-
  Which gates are right, part by part as the program asks it. By the verifier.
-/
namespace Go.Proofs.YtgebghkcikmfaaaGreatDoor
open Go.RowKit

def lvB (ls : List Int) (n i : Nat) : Bool := decide (0 ≤ ls[i]?.getD 0) && (decide (ls[i]?.getD 0 < (n : Int)) && (decide (i = 0) || decide (ls[i - 1]?.getD 0 < ls[i]?.getD 0)))
/-- Leaves of a tree of so many. -/
def lvOk (ls : List Int) (n : Nat) : Bool := decide (1 ≤ ls.length) && (decide (ls.length ≤ 8) && (List.range ls.length).all (lvB ls n))
/-- Each part by itself. -/
def Gt.parts (g : Gt) : Bool := g.ln.ok && (rtsOk g.routes && (rusOk g.rules && (tok g.tree && (g.rows.ok && (g.fair.ok && g.steers.all Sr.ok)))))
/-- Items and sizes, one by one. -/
def keptB (ln : Ln) (l : List It) (s : List Int) : Bool := decide (l.length = s.length) && (List.range l.length).all fun k => decide (ln.on (itAt l k).size = s[k]?.getD 0)
def Gt.kept (g : Gt) : Bool := decide (g.rows.lists.length = g.leaves.length) && (decide (g.steers.length = g.leaves.length) && (decide (g.fair.flows.length = g.leaves.length) && (List.range g.rows.lists.length).all fun i => keptB g.ln (izAt g.rows.lists i) (fwAt g.fair.flows i).sizes))
def Gt.nextB (g : Gt) : Bool := inB 1 1000000 g.next && !(g.rows.lists.any fun l => l.any fun i => decide (g.next ≤ i.id))
theorem Rw.it_ok {r : Rw} (h : r.ok = true) {i k : Nat} (hi : i < r.lists.length) (hk : k < (izAt r.lists i).length) : (itAt (izAt r.lists i) k).ok = true := by
  have h1 := (Bool.and_eq_true _ _ ▸ (Bool.and_eq_true _ _ ▸ h).2 : _ ∧ _).1
  rw [List.all_eq_true] at h1
  refine h1 _ ?_
  unfold Rw.all
  rw [List.mem_flatten]
  refine ⟨izAt r.lists i, ?_, ?_⟩
  · rw [izAt, List.getElem?_eq_getElem hi, Option.getD_some]
    exact List.getElem_mem _
  · rw [itAt_lt hk]
    exact List.getElem_mem _
theorem Gt.ok_parts (g : Gt) : g.ok = (g.parts && (lvOk g.leaves g.tree.length && (g.kept && (g.nextB && inB 0 1048575 g.draw)))) := by
  rw [Bool.eq_iff_iff]
  constructor
  · intro h
    obtain ⟨h1, h2⟩ := Gt.ok_iff.1 h
    obtain ⟨a1, a2, a3, a4, a5, a6, a7, a8, a9, a10, a11, a12, a13⟩ := Gt.head_iff.1 h1
    have lf := fun i hi => Gt.leaf_iff.1 (h2 i hi)
    unfold Gt.parts lvOk Gt.kept Gt.nextB lvB keptB
    simp only [Bool.and_eq_true, Bool.or_eq_true, Bool.not_eq_true', decide_eq_true_eq, List.all_eq_true, List.mem_range, inB_true, List.any_eq_false, List.any_eq_true, not_exists, not_and, Int.not_le]
    refine ⟨⟨a1, a2, a3, a4, a6, a9, ?_⟩, ⟨a5.1, a5.2, fun i hi => ⟨(lf i hi).1.1, (lf i hi).1.2, (lf i hi).2.1⟩⟩, ⟨a7, a8, a10, fun i hi => ⟨(lf i (by omega)).2.2.2.1.symm, fun k hk => ?_⟩⟩, ⟨a11, ?_⟩, a12, a13⟩
    · intro s hs
      obtain ⟨i, hi, rfl⟩ := List.getElem_of_mem hs
      have := (lf i (by omega)).2.2.1
      rwa [srAt_lt hi] at this
    · have ok := Rw.it_ok a6 hi hk
      unfold It.ok at ok
      simp only [Bool.and_eq_true, inB_true] at ok
      rw [on_ok a1 (by rw [inB_true]; omega)]
      exact ((lf i (by omega)).2.2.2.2 k hk).2
    · intro l hl it hit
      obtain ⟨i, hi, rfl⟩ := List.getElem_of_mem hl
      obtain ⟨k, hk, rfl⟩ := List.getElem_of_mem hit
      have e1 : izAt g.rows.lists i = g.rows.lists[i] := by rw [izAt, List.getElem?_eq_getElem hi, Option.getD_some]
      have := ((lf i (by omega)).2.2.2.2 k (by rw [e1]; exact hk)).1
      rw [e1, itAt_lt hk] at this
      exact this
  · intro h
    unfold Gt.parts lvOk Gt.kept Gt.nextB lvB keptB at h
    simp only [Bool.and_eq_true, Bool.or_eq_true, Bool.not_eq_true', decide_eq_true_eq, List.all_eq_true, List.mem_range, inB_true, List.any_eq_false, List.any_eq_true, not_exists, not_and, Int.not_le] at h
    obtain ⟨⟨a1, a2, a3, a4, a6, a9, b1⟩, ⟨b2, b3, b4⟩, ⟨a7, a8, a10, b5⟩, ⟨a11, b6⟩, a12, a13⟩ := h
    refine Gt.ok_iff.2 ⟨Gt.head_iff.2 ⟨a1, a2, a3, a4, ⟨b2, b3⟩, a6, a7, a8, a9, a10, a11, a12, a13⟩, fun i hi => Gt.leaf_iff.2 ⟨⟨(b4 i hi).1, (b4 i hi).2.1⟩, (b4 i hi).2.2, ?_, (b5 i (by omega)).1.symm, fun k hk => ⟨?_, ?_⟩⟩⟩
    · rw [srAt_lt (by omega)]
      exact b1 _ (List.getElem_mem _)
    · have hi2 : i < g.rows.lists.length := by omega
      have e1 : izAt g.rows.lists i = g.rows.lists[i] := by rw [izAt, List.getElem?_eq_getElem hi2, Option.getD_some]
      rw [itAt_lt hk]
      refine b6 (izAt g.rows.lists i) (by rw [e1]; exact List.getElem_mem _) _ (List.getElem_mem _)
    · have ok := Rw.it_ok a6 (i := i) (by omega) hk
      unfold It.ok at ok
      simp only [Bool.and_eq_true, inB_true] at ok
      have := (b5 i (by omega)).2 k hk
      rwa [on_ok a1 (by rw [inB_true]; omega)] at this
end Go.Proofs.YtgebghkcikmfaaaGreatDoor

/-
  The walks of the program's purses: PurseOk, Filled, Spent, When. By the verifier.
-/
namespace Go.Proofs.YtgebghkcikmfaaaGreatDoor
open Go.RowKit

theorem implTime (t : Int) (w : World) :
    Calls Tryz.prog 266 #[.int .i64 t] w fun e w' => e = .returned (.bool (inB 0 1099511627776 t)) ∧ w' = w.alloc (.cells #[.int .i64 t] 2) := by
  have A1 := fun B w h => implUpTo1 1099511627776 t w B h
  generalize inB 0 1099511627776 t = b1 at A1 ⊢
  have A1' : Hid _ := A1
  clear A1
  go_enter Tryz.func266, Tryz.ntmps266
  go_wp2_with fail
  refine (A1'.out _ _ (by simp)).mono ?_
  rintro e w' ⟨rfl, rfl⟩
  go_wp2
  go_ret
  exact ⟨rfl, rfl⟩
set_option maxHeartbeats 1600000 in
theorem implPurseOk (p : Pz) (w : World) :
    Calls Tryz.prog 217 #[p.val] w fun e w' => e = .returned (.bool p.ok) ∧ Below w.heap.size w w' := by
  have Hok : Hid (p.ok = (inB 0 1000 p.rate && (inB 1 100000 p.burst && (inB 0 p.burst p.level && inB 0 1099511627776 p.tm)))) := rfl
  obtain ⟨v0, v1, v2, v3⟩ := p
  generalize Pz.ok _ = ok at Hok ⊢
  simp only [Pz.val] at Hok ⊢
  have A1 := fun B w h => implUpTo1 1000 v0 w B h
  have A2 := fun B w h => implFromOne 100000 v1 B w h
  have A3 := fun B w h => implUpTo1 v1 v2 w B h
  have A4 := fun w => implTime v3 w
  generalize inB 0 1000 v0 = b1 at A1 Hok
  generalize inB 1 100000 v1 = b2 at A2 Hok
  generalize inB 0 v1 v2 = b3 at A3 Hok
  generalize inB 0 1099511627776 v3 = b4 at A4 Hok
  have A1' : Hid _ := A1
  have A2' : Hid _ := A2
  have A3' : Hid _ := A3
  have A4' : Hid _ := A4
  clear A1 A2 A3 A4
  go_enter Tryz.func217, Tryz.ntmps217
  go_wp2_with fail
  refine (A1'.out _ _ (by simp)).mono ?_
  rintro e w' ⟨rfl, rfl⟩
  cases b1
  · go_wp2
    go_ret
    exact ⟨ret_bool (by rw [Hok.out]; rfl), by repeat (first | exact Below.refl _ _ | refine Below.alloc ?_ (by simp <;> omega) _)⟩
  go_wp2_with fail
  refine (A2'.out _ _ (by simp)).mono ?_
  rintro e w' ⟨rfl, rfl⟩
  cases b2
  · go_wp2
    go_ret
    exact ⟨ret_bool (by rw [Hok.out]; rfl), by repeat (first | exact Below.refl _ _ | refine Below.alloc ?_ (by simp <;> omega) _)⟩
  go_wp2_with fail
  refine (A3'.out _ _ (by simp)).mono ?_
  rintro e w' ⟨rfl, rfl⟩
  cases b3
  · go_wp2
    go_ret
    exact ⟨ret_bool (by rw [Hok.out]; rfl), by repeat (first | exact Below.refl _ _ | refine Below.alloc ?_ (by simp <;> omega) _)⟩
  go_wp2_with fail
  refine (A4'.out _).mono ?_
  rintro e w' ⟨rfl, rfl⟩
  go_wp2
  go_ret
  exact ⟨ret_bool (by rw [Hok.out]; rfl), by repeat (first | exact Below.refl _ _ | refine Below.alloc ?_ (by simp <;> omega) _)⟩

end Go.Proofs.YtgebghkcikmfaaaGreatDoor

/-
  The walks of the program's upOk and TreeOk. By the verifier.
-/
namespace Go.Proofs.YtgebghkcikmfaaaGreatDoor
open Go.RowKit

/-- Is the Up of a number right? -/
def upB (k : Nat) (up : Int) : Bool := if k = 0 then decide (up = -1) else (decide (0 ≤ up) && decide (up < (k : Int)))
theorem upB_in {k : Nat} {up : Int} (h : k ≠ 0) : inB 0 ((k : Int) - 1) up = upB k up := by
  unfold upB
  rw [if_neg h, Bool.eq_iff_iff, inB_true]
  simp only [Bool.and_eq_true, decide_eq_true_eq]
  omega
set_option maxHeartbeats 1600000 in
theorem implUpOk (k : Nat) (up : Int) (w : World) (hk : k ≤ 1048576) :
    Calls Tryz.prog 216 #[.int .i64 (k : Int), .int .i64 up] w fun e w' => e = .returned (.bool (upB k up)) ∧ Below w.heap.size w w' := by
  by_cases h0 : k = 0
  · subst h0
    have e0 : upB 0 up = decide (up = -1) := rfl
    rw [e0]
    by_cases h1 : up = -1
    · subst h1
      go_enter Tryz.func216, Tryz.ntmps216
      go_wp2
      go_ret
      exact ⟨rfl, Below.refl _ _⟩
    · have h1' : (up == -1) = false := by simpa using h1
      rw [decide_eq_false h1]
      go_enter Tryz.func216, Tryz.ntmps216
      go_wp2
      go_ret
      exact ⟨by first | rfl | simp [h1], Below.refl _ _⟩
  · have A := fun w => implPlace k up w hk
    rw [upB_in h0] at A
    generalize upB k up = y at A ⊢
    have A' : Hid _ := A
    clear A
    have h0' : ¬ (k : Int) = 0 := by omega
    go_enter Tryz.func216, Tryz.ntmps216
    go_wp2_with fail
    refine (A'.out _).mono ?_
    rintro e w' ⟨rfl, rfl⟩
    go_wp2
    go_ret
    exact ⟨rfl, (Below.refl _ _).alloc (Nat.le_refl _) _⟩

set_option maxHeartbeats 3200000 in
set_option maxRecDepth 100000 in
theorem implTreeOk (l : List Nd) (a : Option Addr) (cap : Nat) (w : World) (hT : l.length ≤ 1048576) (_hc : l.length ≤ cap) (_hcn : a = none → cap = 0) (h : Hid (NdsAt w a l)) :
    Calls Tryz.prog 152 #[.slice a l.length cap] w fun e w' => e = .returned (.bool (tok l)) ∧ Below w.heap.size w w' := by
  obtain ⟨R, hR⟩ : ∃ R, tok l = R := ⟨_, rfl⟩
  have Yes : Hid (inB 1 12 (l.length : Int) = true → (∀ k, k < l.length → treeB l k = true) → R = true) := fun h1 h3 => by rw [← hR]; rw [inB_true] at h1; exact tok_iff.2 ⟨by omega, by omega, h3⟩
  have No : Hid (∀ k, k < l.length → treeB l k = false → R = false) := fun k hk hn => by
    rw [← hR]
    cases hq : tok l with
    | false => rfl
    | true => rw [(tok_iff.1 hq).2.2 k hk] at hn; cases hn
  have No6 : Hid (inB 1 12 (l.length : Int) = false → R = false) := fun hn => by
    rw [← hR]
    rw [inB_false] at hn
    cases hq : tok l with
    | false => rfl
    | true => have := (tok_iff.1 hq); omega
  have A0 := fun B w hh => implFromOne 12 (l.length : Int) B w hh
  rw [hR]
  clear hR _hc _hcn
  have Hpos : Hid (inB 1 12 (l.length : Int) = true → l.length ≤ 12) := fun h => by rw [inB_true] at h; omega
  generalize inB 1 12 (l.length : Int) = b0 at A0 Yes No6 Hpos
  obtain ⟨len, hlen⟩ : ∃ n, l.length = n := ⟨_, rfl⟩
  rw [hlen] at hT Yes No A0 Hpos ⊢
  have Hlen : Hid (l.length = len) := hlen
  have A0' : Hid _ := A0
  clear hlen A0
  go_enter Tryz.func152, Tryz.ntmps152
  go_wp2_with fail
  refine (A0'.out _ _ (by simp)).mono ?_
  rintro e w1 ⟨rfl, hw1⟩
  have B1 : Hid (Below w.heap.size w w1) := by show Below _ _ _; rw [hw1]; exact (Below.refl _ _).alloc (Nat.le_refl _) _
  clear hw1 A0'
  cases b0
  · have e : R = false := No6.out rfl
    subst e
    go_wp2
    go_ret
    exact ⟨rfl, B1.out⟩
  have h12 := Hpos.out rfl
  go_wp2
  go_loopw [12] (fun s wr => ∃ k : Nat, k ≤ len ∧ s = .int .i64 k ∧ Hid ((∀ j, j < k → treeB l j = true) ∧ Below w.heap.size w wr)) (fun s _ => len - (intOf s).toNat)
  case atStart => exact ⟨0, Nat.zero_le _, rfl, fun j hj => by omega, B1.out⟩
  case round =>
    obtain ⟨k, hk, rfl, HK⟩ := hrel
    clear B1
    by_cases hlt : k < len
    case neg =>
      obtain rfl : k = len := by omega
      have e : R = true := Yes.out (by first | exact trivial | exact rfl) HK.out.1
      subst e
      go_wp2
      go_ret
      exact ⟨rfl, HK.out.2⟩
    have hlt' : (k : Int) < (len : Int) := by omega
    have Lie : Hid (NdsAt wr a l) := h.out.below HK.out.2
    obtain ⟨b1, o1, ha1, hb1, -⟩ := Lie.out k (by rw [Hlen.out]; exact hlt)
    subst ha1
    obtain ⟨c0, c1, c2, c3, c4⟩ := Lie.out.cells (k := k) (by rw [Hlen.out]; exact hlt)
    have e4 := (Lie.out.cells (k := 0) (by rw [Hlen.out]; omega)).2.2.2.2
    have A1 := fun w => implPurseOk (ndAt l k).pz w
    have A2 := fun w => implUpOk k (ndAt l k).up w (by omega)
    have Gd : Hid (treeB l k = ((ndAt l k).pz.ok && (decide ((ndAt l k).pz.tm = (ndAt l 0).pz.tm) && upB k (ndAt l k).up))) := rfl
    have Nk := No.out k hlt
    have Yk : Hid (treeB l k = true → ∀ j, j < k + 1 → treeB l j = true) := fun hg j hj => by
      by_cases e : j = k
      · rw [e]; exact hg
      · exact HK.out.1 j (by omega)
    generalize treeB l k = good at Gd Nk Yk
    generalize (ndAt l 0).pz.tm = t0 at e4 Gd
    generalize (ndAt l k).pz.ok = ok at A1 Gd
    generalize upB k (ndAt l k).up = ub at A2 Gd
    generalize ndAt l k = x at c0 c1 c2 c3 c4 A1 A2 Gd
    obtain ⟨x0, x1, x2, x3, x4⟩ := x
    simp only [Pz.val] at c0 c1 c2 c3 c4 A1 A2 Gd
    have A1' : Hid _ := A1
    have A2' : Hid _ := A2
    have HN : Hid (good = false → R = false) := Nk
    have Bw : Hid (Below w.heap.size w wr) := HK.out.2
    clear A1 A2 Nk
    obtain ⟨g, hg⟩ : ∃ g, g = wr.heap.size := ⟨_, rfl⟩
    have N : Hid (Boxed (wr.alloc (.cells #[.int .i64 0, .int .i64 0, .int .i64 0, .int .i64 0, .int .i64 0] 130)) wr.heap.size #[.int .i64 0, .int .i64 0, .int .i64 0, .int .i64 0, .int .i64 0] 130) := Boxed.new _ _ _
    have X : Hid (Boxed ((wr.alloc (.cells #[.int .i64 0, .int .i64 0, .int .i64 0, .int .i64 0, .int .i64 0] 130)).setRow wr.heap.size #[.int .i64 x0, .int .i64 x1, .int .i64 x2, .int .i64 x3, .int .i64 x4]) wr.heap.size #[.int .i64 x0, .int .i64 x1, .int .i64 x2, .int .i64 x3, .int .i64 x4] 130 ∧ Below wr.heap.size wr ((wr.alloc (.cells #[.int .i64 0, .int .i64 0, .int .i64 0, .int .i64 0, .int .i64 0] 130)).setRow wr.heap.size #[.int .i64 x0, .int .i64 x1, .int .i64 x2, .int .i64 x3, .int .i64 x4])) := ⟨setRow_heap _ _ _ _ _ _ (Boxed.new _ _ _), below_setRow ((Below.refl _ _).alloc (Nat.le_refl _) _) (Nat.le_refl _) _⟩
    go_upto_region 6 with (refine wpList_store_row rfl 130 (.tmp _) (.tmp _) rfl wr.heap.size #[.int .i64 x0, .int .i64 x1, .int .i64 x2, .int .i64 x3, .int .i64 x4] rfl rfl _ _ N.out (by kernel_rfl) rfl (ndOnes _ _ _ _ _) ?_)
    clear c0 c1 c2 c3 c4 N
    simp only [Act.put]
    generalize (wr.alloc (.cells #[.int .i64 0, .int .i64 0, .int .i64 0, .int .i64 0, .int .i64 0] 130)).setRow wr.heap.size #[.int .i64 x0, .int .i64 x1, .int .i64 x2, .int .i64 x3, .int .i64 x4] = wx at X ⊢
    rw [← hg] at X ⊢
    have d0 : ∀ p : BelW wx.heap.size wx, p.w'.cell? ⟨g, 0, none⟩ = some (.int .i64 x0) := fun p => (X.out.1.below X.out.1.under p.h).cell 0 rfl
    have d1 : ∀ p : BelW wx.heap.size wx, p.w'.cell? ⟨g, 1, none⟩ = some (.int .i64 x1) := fun p => (X.out.1.below X.out.1.under p.h).cell 1 rfl
    have d2 : ∀ p : BelW wx.heap.size wx, p.w'.cell? ⟨g, 2, none⟩ = some (.int .i64 x2) := fun p => (X.out.1.below X.out.1.under p.h).cell 2 rfl
    have d3 : ∀ p : BelW wx.heap.size wx, p.w'.cell? ⟨g, 3, none⟩ = some (.int .i64 x3) := fun p => (X.out.1.below X.out.1.under p.h).cell 3 rfl
    have d4 : ∀ p : BelW wx.heap.size wx, p.w'.cell? ⟨g, 4, none⟩ = some (.int .i64 x4) := fun p => (X.out.1.below X.out.1.under p.h).cell 4 rfl
    have hbl : Hid (b1 < wr.heap.size) := hb1
    have f4 : ∀ p : BelW wx.heap.size wx, p.w'.cell? ⟨b1, o1 + 4, none⟩ = some (.int .i64 t0) := fun p => by
      have hX : Below wr.heap.size wr wx := by rw [← hg]; exact X.out.2
      rw [(hX.trans (p.h.mono hX.size)).cell (p := ⟨b1, o1 + 4, none⟩) hbl.out]
      simpa using e4
    have step : Hid (∀ w2, Below wx.heap.size wx w2 → Below w.heap.size w w2) := fun w2 q => by
      have hX : Below wr.heap.size wr wx := by rw [← hg]; exact X.out.2
      exact Bw.out.trans ((hX.trans (q.mono hX.size)).mono Bw.out.size)
    clear hg HK Lie e4 hb1 X Bw
    haveI : Nonempty (BelW wx.heap.size wx) := ⟨⟨wx, Below.refl _ _⟩⟩
    cases ub
    · have e : R = false := HN.out (by rw [Gd.out]; simp)
      subst e
      clear Gd Yk HN
      refine region_below wx.heap.size (by kernel_rfl) (by kernel_rfl) ?_
      repeat (go_big_quiet_step ((first | (go_at_call 217; with_reducible refine quiet_below (Nat.le_refl _) (A1'.out _)) | (go_at_call 216; with_reducible refine quiet_below (Nat.le_refl _) (A2'.out _)))))
      refine wpQuiet_nil ?_
      intro w2 hx
      have B2 : Hid (Below w.heap.size w w2) := step.out w2 (BelW.out hx)
      clear hx d0 d1 d2 d3 d4 f4
      go_wp2
      go_ret
      exact ⟨rfl, B2.out⟩
    cases ok
    · have e : R = false := HN.out (by rw [Gd.out]; rfl)
      subst e
      clear Gd Yk HN
      refine region_below wx.heap.size (by kernel_rfl) (by kernel_rfl) ?_
      repeat (go_big_quiet_step ((first | (go_at_call 217; with_reducible refine quiet_below (Nat.le_refl _) (A1'.out _)) | (go_at_call 216; with_reducible refine quiet_below (Nat.le_refl _) (A2'.out _)))))
      refine wpQuiet_nil ?_
      intro w2 hx
      have B2 : Hid (Below w.heap.size w w2) := step.out w2 (BelW.out hx)
      clear hx d0 d1 d2 d3 d4 f4
      go_wp2
      go_ret
      exact ⟨rfl, B2.out⟩
    by_cases ht : x4 = t0
    case neg =>
      have ht' : (x4 != t0) = true := by simpa using ht
      have e : R = false := HN.out (by rw [Gd.out]; simp [ht])
      subst e
      clear Gd Yk HN
      refine region_below wx.heap.size (by kernel_rfl) (by kernel_rfl) ?_
      repeat (go_big_quiet_step ((first | (go_at_call 217; with_reducible refine quiet_below (Nat.le_refl _) (A1'.out _)) | (go_at_call 216; with_reducible refine quiet_below (Nat.le_refl _) (A2'.out _)))))
      refine wpQuiet_nil ?_
      intro w2 hx
      have B2 : Hid (Below w.heap.size w w2) := step.out w2 (BelW.out hx)
      clear hx d0 d1 d2 d3 d4 f4
      go_wp2
      go_ret
      exact ⟨rfl, B2.out⟩
    subst ht
    have G : Hid (∀ j, j < k + 1 → treeB l j = true) := Yk.out (by rw [Gd.out]; simp)
    clear Gd Yk HN
    refine region_below wx.heap.size (by kernel_rfl) (by kernel_rfl) ?_
    repeat (go_big_quiet_step ((first | (go_at_call 217; with_reducible refine quiet_below (Nat.le_refl _) (A1'.out _)) | (go_at_call 216; with_reducible refine quiet_below (Nat.le_refl _) (A2'.out _)))))
    refine wpQuiet_nil ?_
    intro w2 hx
    have B2 : Hid (Below w.heap.size w w2) := step.out w2 (BelW.out hx)
    clear hx d0 d1 d2 d3 d4 f4
    go_wp2
    go_roundw
    case rel => exact ⟨k + 1, by omega, by go_num, G.out, B2.out⟩
    case measure => simp [intOf]; omega
end Go.Proofs.YtgebghkcikmfaaaGreatDoor

/-
  The walks of slices.IndexFunc and slices.ContainsFunc on steers, for whatever function tells yes or no. By the verifier.
-/
namespace Go.Proofs.YtgebghkcikmfaaaGreatDoor
open Go.RowKit Go.Shelf

/-- A function that tells yes or no of a steer, as long as what it looks at lies as it lay. -/
structure SrTells (W0 : World) (D : Nat → Prop) (g : FuncId) (fs cb : Array Value) (Q : Sr → Prop) (p : Sr → Bool) : Prop where
  enters : Enters Tryz.prog g
  under : ∀ k, D k → k < W0.heap.size
  tells : ∀ (W : World) (r : Sr), Q r → (∀ k, D k → W.heap[k]? = W0.heap[k]?) → Calls Tryz.prog g (fs ++ #[r.val] ++ cb) W fun e w' => e = .returned (.bool (p r)) ∧ Below W.heap.size W w'
set_option maxHeartbeats 1600000 in
set_option maxRecDepth 100000 in
theorem implIndexS (a : Option Addr) (cap : Nat) (l : List Sr) (g : FuncId) (fs cb : Array Value) (D : Nat → Prop) (Q : Sr → Prop) (p : Sr → Bool) (w : World) (hT : l.length ≤ 1048576) (h : Hid (SrsAt w a l)) (hq : Hid (∀ r ∈ l, Q r)) (ht : Hid (SrTells w D g fs cb Q p)) :
    Calls Tryz.prog 223 #[.slice a l.length cap, .func (.func g) fs cb] w fun e w' => e = .returned (.int .i64 (if l.findIdx p < l.length then (l.findIdx p : Int) else -1)) ∧ Below w.heap.size w w' := by
  have eg : ∀ args w, (callFunc g args).run Tryz.prog w = .ok (.enter g args) w := ht.out.enters
  obtain ⟨len, hlen⟩ : ∃ n, l.length = n := ⟨_, rfl⟩
  have Hlen : Hid (l.length = len) := hlen
  obtain ⟨N, hN⟩ : ∃ N, l.findIdx p = N := ⟨_, rfl⟩
  have HN : Hid (l.findIdx p = N) := hN
  have hNl : N ≤ len := by rw [← hN, ← hlen]; exact List.findIdx_le_length
  rw [hlen] at hT ⊢
  rw [hN]
  clear hlen hN
  go_enter Tryz.func223, Tryz.ntmps223
  go_wp2
  go_loopw [8] (fun i wr => ∃ k : Nat, k ≤ N ∧ i = .int .i64 k ∧ Hid (Below w.heap.size w wr)) (fun i _ => len - (intOf i).toNat)
  case atStart => exact ⟨0, Nat.zero_le _, rfl, Below.refl _ _⟩
  case round =>
    obtain ⟨k, hk, rfl, H1⟩ := hrel
    by_cases hlt : k < len
    · have R : Hid (SrsAt wr a l) := h.out.below H1.out
      obtain ⟨b1, o1, ha1, hb1, -⟩ := R.out k (by rw [Hlen.out]; exact hlt)
      subst ha1
      obtain ⟨c0, c1, c2⟩ := R.out.cells (k := k) (by rw [Hlen.out]; exact hlt)
      have hmem : srAt l k ∈ l := by rw [srAt_lt (by rw [Hlen.out]; exact hlt)]; exact List.getElem_mem _
      have HC := ht.out.tells wr (srAt l k) (hq.out _ hmem) fun j hj => H1.out.block j (ht.out.under j hj)
      unfold Sr.val at HC
      have hlt' : (k : Int) < (len : Int) := by omega
      by_cases hkN : k = N
      · have hp : p (srAt l k) = true := by
          rw [srAt_lt (by rw [Hlen.out]; exact hlt)]
          have := List.findIdx_getElem (p := p) (xs := l) (w := by rw [HN.out, Hlen.out, ← hkN]; exact hlt)
          simpa only [HN.out, ← hkN] using this
        rw [hp] at HC
        clear hmem hp R
        generalize srAt l k = r at c0 c1 c2 HC
        subst hkN
        go_wp2_with fail
        refine HC.mono ?_
        rintro e w' ⟨rfl, hb'⟩
        have B2 : Hid (Below w.heap.size w w') := H1.out.trans (hb'.mono H1.out.size)
        clear hb' H1 HC c0 c1 c2
        go_wp2
        go_ret
        exact ⟨by first | rfl | (rw [if_pos hlt]; rfl), B2.out⟩
      · have hp : p (srAt l k) = false := by
          rw [srAt_lt (by rw [Hlen.out]; exact hlt)]
          have := List.not_of_lt_findIdx (p := p) (xs := l) (i := k) (by rw [HN.out]; omega)
          simpa using this
        rw [hp] at HC
        clear hmem hp R
        generalize srAt l k = r at c0 c1 c2 HC
        go_wp2_with fail
        refine HC.mono ?_
        rintro e w' ⟨rfl, hb'⟩
        have B2 : Hid (Below w.heap.size w w') := H1.out.trans (hb'.mono H1.out.size)
        clear hb' H1 HC c0 c1 c2
        go_wp2
        go_roundw
        case rel => exact ⟨k + 1, by omega, by go_num, B2⟩
        case measure => simp [intOf]; omega
    · obtain rfl : k = len := by omega
      obtain rfl : k = N := by omega
      go_wp2
      go_ret
      exact ⟨by first | rfl | (rw [if_neg (Nat.lt_irrefl _)]; rfl), H1.out⟩

set_option maxHeartbeats 1600000 in
theorem implContainsS (a : Option Addr) (cap : Nat) (l : List Sr) (g : FuncId) (fs cb : Array Value) (D : Nat → Prop) (Q : Sr → Prop) (p : Sr → Bool) (w : World) (hT : l.length ≤ 1048576) (h : Hid (SrsAt w a l)) (hq : Hid (∀ r ∈ l, Q r)) (ht : Hid (SrTells w D g fs cb Q p)) :
    Calls Tryz.prog 155 #[.slice a l.length cap, .func (.func g) fs cb] w fun e w' => e = .returned (.bool (l.any p)) ∧ Below w.heap.size w w' := by
  have I := fun (w : World) h ht => implIndexS a cap l g fs cb D Q p w hT h hq ht
  have Ha : Hid (decide (l.findIdx p < l.length) = l.any p) := any_idxT l p
  generalize l.any p = b at Ha ⊢
  by_cases hlt : l.findIdx p < l.length
  · rw [if_pos hlt] at I
    rw [decide_eq_true hlt] at Ha
    generalize l.findIdx p = N at I hlt
    generalize l.length = len at I hlt hT ⊢
    have I' : Hid _ := I
    clear I hlt
    have hp : (0 : Int) ≤ (N : Int) := by omega
    go_enter Tryz.func155, Tryz.ntmps155
    go_wp2_with fail
    refine (I'.out _ h ht).mono ?_
    rintro e w' ⟨rfl, hb⟩
    have B2 : Hid (Below w.heap.size w w') := hb
    clear hb
    go_wp2
    go_ret
    exact ⟨ret_bool (by rw [← Ha.out]), B2.out⟩
  · rw [if_neg hlt] at I
    rw [decide_eq_false hlt] at Ha
    generalize l.length = len at I hT ⊢
    have I' : Hid _ := I
    clear I hlt
    go_enter Tryz.func155, Tryz.ntmps155
    go_wp2_with fail
    refine (I'.out _ h ht).mono ?_
    rintro e w' ⟨rfl, hb⟩
    have B2 : Hid (Below w.heap.size w w') := hb
    clear hb
    go_wp2
    go_ret
    exact ⟨ret_bool (by rw [← Ha.out]), B2.out⟩
end Go.Proofs.YtgebghkcikmfaaaGreatDoor

/-
  The walk of the program's gatePartsOk. By the verifier, by program.
-/
namespace Go.Proofs.YtgebghkcikmfaaaGreatDoor
open Go.RowKit Go.Shelf

set_option maxHeartbeats 1600000 in
theorem implBadSr (r : Sr) (w : World) :
    Calls Tryz.prog 156 #[r.val] w fun e w' => e = .returned (.bool (!r.ok)) ∧ Below w.heap.size w w' := by
  have O := fun w => implSteerOk r w
  generalize r.ok = ok at O ⊢
  obtain ⟨r1, r2, r3⟩ := r
  simp only [Sr.val] at O ⊢
  have H : Hid (Below w.heap.size w (w.alloc (.cells #[.int .i64 r1, .int .i64 r2, .int .i64 r3] 114))) := (Below.refl _ _).alloc (Nat.le_refl _) _
  have O' : Hid _ := O
  clear O
  go_enter Tryz.func156, Tryz.ntmps156
  go_wp2_with fail
  refine (O'.out _).mono ?_
  rintro e w2 ⟨rfl, q⟩
  have H2 : Hid (Below w.heap.size w w2) := H.out.trans (q.mono H.out.size)
  clear q O' H
  go_wp2
  go_ret
  exact ⟨rfl, H2.out⟩
theorem any_bad (l : List Sr) : (l.any fun r => !r.ok) = !l.all Sr.ok := by
  induction l with
  | nil => rfl
  | cons a l ih => rw [List.any_cons, List.all_cons, ih, Bool.not_and]

theorem implTreeOkV (g : Gt) (x : Ga) (w : World) (hT : g.tree.length ≤ 1048576) (h : GtV w x g) :
    Calls Tryz.prog 152 #[.slice x.a3 g.tree.length x.c3] w fun e w' => e = .returned (.bool (tok g.tree)) ∧ Below w.heap.size w w' := by
  obtain ⟨a, c, e, h1, h2, h3⟩ := h.tree
  cases e
  exact implTreeOk g.tree _ _ w hT h2 h3 h1

set_option maxHeartbeats 6400000 in
set_option maxRecDepth 100000 in
theorem implParts (g : Gt) (x : Ga) (w : World) (hB : g.big ≤ 1048576) (h : Hid (GtV w x g)) :
    Calls Tryz.prog 90 #[g.val x] w fun e w' => e = .returned (.bool g.parts) ∧ Below w.heap.size w w' := by
  obtain ⟨s1, s2, s3, s4, s5, s6, s7⟩ := Gt.small hB
  have A1 := fun w => implLineOk g.ln w
  have A2 := fun w (h : GtV w x g) => implOk x.a1 x.c1 g.routes w s1 h.routes.spot'
  have A3 := fun w (h : GtV w x g) => implRules x.a2 x.c2 g.rules w s2 h.rules.spot'
  have A4 := fun w (h : GtV w x g) => implTreeOkV g x w s3 h
  have A5 := fun w (h : GtV w x g) => implRowsOk g.rows x.a5 x.c5 w s5 h.rows.spot
  have A6 := fun w (h : GtV w x g) => implFairOk g.fair (g.fair.val x.a7 x.c7) w s7 h.fair
  have A7 := fun w (h : GtV w x g) => implContainsS x.a6 x.c6 g.steers 156 #[] #[] (fun _ => False) (fun _ => True) (fun r => !r.ok) w s6 h.steers.spot' (fun _ _ => trivial) ⟨enters_of Tryz.func156 (by kernel_rfl) rfl, fun _ hk => hk.elim, fun W r _ _ => implBadSr r W⟩
  have Hv : Hid (g.parts = (g.ln.ok && (rtsOk g.routes && (rusOk g.rules && (tok g.tree && (g.rows.ok && (g.fair.ok && !(g.steers.any fun r => !r.ok)))))))) := by show _ = _; unfold Gt.parts; rw [any_bad, Bool.not_not]
  unfold Ln.val at A1
  unfold Rw.val at A5
  unfold Fs.val at A6
  generalize g.parts = R at Hv ⊢
  generalize g.ln.ok = o1 at A1 Hv
  generalize rtsOk g.routes = o2 at A2 Hv
  generalize rusOk g.rules = o3 at A3 Hv
  generalize tok g.tree = o4 at A4 Hv
  generalize g.rows.ok = o5 at A5 Hv
  generalize g.fair.ok = o6 at A6 Hv
  generalize (g.steers.any fun r => !r.ok) = o7 at A7 Hv
  have K : Hid (∀ w', Below w.heap.size w w' → GtV w' x g) := fun w' q => h.out.below q
  unfold Gt.val Gt.cells
  generalize g.ln.kind = kd at A1 ⊢
  generalize g.ln.extra = ex at A1 ⊢
  generalize g.ln.least = le at A1 ⊢
  generalize g.routes.length = n1 at A2 ⊢
  generalize g.rules.length = n2 at A3 ⊢
  generalize g.tree.length = n3 at A4 ⊢
  generalize g.leaves.length = n4
  generalize g.rows.most = mo at A5 ⊢
  generalize g.rows.lists.length = n5 at A5 ⊢
  generalize g.steers.length = n6 at A7 ⊢
  generalize g.fair.now = nw at A6 ⊢
  generalize g.fair.flows.length = n7 at A6 ⊢
  generalize g.next = nx
  generalize g.draw = dr
  have B1 : Hid _ := A1
  clear A1
  have A1 := B1
  clear B1
  have B2 : Hid _ := A2
  clear A2
  have A2 := B2
  clear B2
  have B3 : Hid _ := A3
  clear A3
  have A3 := B3
  clear B3
  have B4 : Hid _ := A4
  clear A4
  have A4 := B4
  clear B4
  have B5 : Hid _ := A5
  clear A5
  have A5 := B5
  clear B5
  have B6 : Hid _ := A6
  clear A6
  have A6 := B6
  clear B6
  have B7 : Hid _ := A7
  clear A7
  have A7 := B7
  clear B7
  obtain ⟨A, hAq⟩ : ∃ A, A = w.heap.size := ⟨_, rfl⟩
  obtain ⟨W0, hW⟩ : ∃ W, W = w.alloc (.cells #[.int .i64 kd, .int .i64 ex, .int .i64 le, .slice x.a1 n1 x.c1, .slice x.a2 n2 x.c2, .slice x.a3 n3 x.c3, .slice x.a4 n4 x.c4, .int .i64 mo, .slice x.a5 n5 x.c5, .slice x.a6 n6 x.c6, .int .i64 nw, .slice x.a7 n7 x.c7, .int .i64 nx, .int .i64 dr] 50) := ⟨_, rfl⟩
  have Z0 : Hid (Boxed W0 A #[.int .i64 kd, .int .i64 ex, .int .i64 le, .slice x.a1 n1 x.c1, .slice x.a2 n2 x.c2, .slice x.a3 n3 x.c3, .slice x.a4 n4 x.c4, .int .i64 mo, .slice x.a5 n5 x.c5, .slice x.a6 n6 x.c6, .int .i64 nw, .slice x.a7 n7 x.c7, .int .i64 nx, .int .i64 dr] 50 ∧ Below w.heap.size w W0) := by
    have bw : Below w.heap.size w W0 := by rw [hW]; exact (Below.refl _ _).alloc (Nat.le_refl _) _
    exact ⟨by rw [hW, hAq]; exact Boxed.new _ _ _, bw⟩
  have HW : Hid (W0 = _) := hW
  have HA : Hid (A = _) := hAq
  clear hW hAq h hB s1 s2 s3 s4 s5 s6 s7
  go_enter Tryz.func90, Tryz.ntmps90
  go_upto_region 1 with fail
  rw [← HW.out, ← HA.out]
  clear HW HA
  have c0 : ∀ p : BelW W0.heap.size W0, p.w'.cell? ⟨A, 0, none⟩ = some (.int .i64 kd) := fun p => (Z0.out.1.below Z0.out.1.under p.h).cell 0 rfl
  have c1 : ∀ p : BelW W0.heap.size W0, p.w'.cell? ⟨A, 1, none⟩ = some (.int .i64 ex) := fun p => (Z0.out.1.below Z0.out.1.under p.h).cell 1 rfl
  have c2 : ∀ p : BelW W0.heap.size W0, p.w'.cell? ⟨A, 2, none⟩ = some (.int .i64 le) := fun p => (Z0.out.1.below Z0.out.1.under p.h).cell 2 rfl
  have c3 : ∀ p : BelW W0.heap.size W0, p.w'.cell? ⟨A, 3, none⟩ = some (.slice x.a1 n1 x.c1) := fun p => (Z0.out.1.below Z0.out.1.under p.h).cell 3 rfl
  have c4 : ∀ p : BelW W0.heap.size W0, p.w'.cell? ⟨A, 4, none⟩ = some (.slice x.a2 n2 x.c2) := fun p => (Z0.out.1.below Z0.out.1.under p.h).cell 4 rfl
  have c5 : ∀ p : BelW W0.heap.size W0, p.w'.cell? ⟨A, 5, none⟩ = some (.slice x.a3 n3 x.c3) := fun p => (Z0.out.1.below Z0.out.1.under p.h).cell 5 rfl
  have c7 : ∀ p : BelW W0.heap.size W0, p.w'.cell? ⟨A, 7, none⟩ = some (.int .i64 mo) := fun p => (Z0.out.1.below Z0.out.1.under p.h).cell 7 rfl
  have c8 : ∀ p : BelW W0.heap.size W0, p.w'.cell? ⟨A, 8, none⟩ = some (.slice x.a5 n5 x.c5) := fun p => (Z0.out.1.below Z0.out.1.under p.h).cell 8 rfl
  have c9 : ∀ p : BelW W0.heap.size W0, p.w'.cell? ⟨A, 9, none⟩ = some (.slice x.a6 n6 x.c6) := fun p => (Z0.out.1.below Z0.out.1.under p.h).cell 9 rfl
  have c10 : ∀ p : BelW W0.heap.size W0, p.w'.cell? ⟨A, 10, none⟩ = some (.int .i64 nw) := fun p => (Z0.out.1.below Z0.out.1.under p.h).cell 10 rfl
  have c11 : ∀ p : BelW W0.heap.size W0, p.w'.cell? ⟨A, 11, none⟩ = some (.slice x.a7 n7 x.c7) := fun p => (Z0.out.1.below Z0.out.1.under p.h).cell 11 rfl
  have Kp : Hid (∀ p : BelW W0.heap.size W0, GtV p.w' x g) := fun p => K.out _ (Z0.out.2.trans (p.h.mono Z0.out.2.size))
  have Sp : Hid (∀ w2, Below W0.heap.size W0 w2 → Below w.heap.size w w2) := fun w2 q => Z0.out.2.trans (q.mono Z0.out.2.size)
  clear Z0 K
  haveI : Nonempty (BelW W0.heap.size W0) := ⟨⟨W0, Below.refl _ _⟩⟩
  cases o1
  · have e : R = false := by rw [Hv.out]; rfl
    subst e
    refine region_belowS W0.heap.size ?_
    try simp only [List.append]
    repeat (go_big_quiet_step (first | (go_at_call 149; with_reducible refine quiet_below (Nat.le_refl _) (A1.out _)) | (go_at_call 150; with_reducible refine quiet_below (Nat.le_refl _) (A2.out _ (Kp.out _))) | (go_at_call 151; with_reducible refine quiet_below (Nat.le_refl _) (A3.out _ (Kp.out _))) | (go_at_call 152; with_reducible refine quiet_below (Nat.le_refl _) (A4.out _ (Kp.out _))) | (go_at_call 153; with_reducible refine quiet_below (Nat.le_refl _) (A5.out _ (Kp.out _))) | (go_at_call 154; with_reducible refine quiet_below (Nat.le_refl _) (A6.out _ (Kp.out _))) | (go_at_call 155; with_reducible refine quiet_below (Nat.le_refl _) (A7.out _ (Kp.out _)))))
    refine wpQuiet_nil ?_
    intro w2 hx
    have Z2 : Hid (Below w.heap.size w w2) := Sp.out _ (BelW.out hx)
    clear hx Kp Sp c0 c1 c2 c3 c4 c5 c7 c8 c9 c10 c11
    go_wp2
    go_ret
    exact ⟨rfl, Z2.out⟩
  cases o2
  · have e : R = false := by rw [Hv.out]; rfl
    subst e
    refine region_belowS W0.heap.size ?_
    try simp only [List.append]
    repeat (go_big_quiet_step (first | (go_at_call 149; with_reducible refine quiet_below (Nat.le_refl _) (A1.out _)) | (go_at_call 150; with_reducible refine quiet_below (Nat.le_refl _) (A2.out _ (Kp.out _))) | (go_at_call 151; with_reducible refine quiet_below (Nat.le_refl _) (A3.out _ (Kp.out _))) | (go_at_call 152; with_reducible refine quiet_below (Nat.le_refl _) (A4.out _ (Kp.out _))) | (go_at_call 153; with_reducible refine quiet_below (Nat.le_refl _) (A5.out _ (Kp.out _))) | (go_at_call 154; with_reducible refine quiet_below (Nat.le_refl _) (A6.out _ (Kp.out _))) | (go_at_call 155; with_reducible refine quiet_below (Nat.le_refl _) (A7.out _ (Kp.out _)))))
    refine wpQuiet_nil ?_
    intro w2 hx
    have Z2 : Hid (Below w.heap.size w w2) := Sp.out _ (BelW.out hx)
    clear hx Kp Sp c0 c1 c2 c3 c4 c5 c7 c8 c9 c10 c11
    go_wp2
    go_ret
    exact ⟨rfl, Z2.out⟩
  cases o3
  · have e : R = false := by rw [Hv.out]; rfl
    subst e
    refine region_belowS W0.heap.size ?_
    try simp only [List.append]
    repeat (go_big_quiet_step (first | (go_at_call 149; with_reducible refine quiet_below (Nat.le_refl _) (A1.out _)) | (go_at_call 150; with_reducible refine quiet_below (Nat.le_refl _) (A2.out _ (Kp.out _))) | (go_at_call 151; with_reducible refine quiet_below (Nat.le_refl _) (A3.out _ (Kp.out _))) | (go_at_call 152; with_reducible refine quiet_below (Nat.le_refl _) (A4.out _ (Kp.out _))) | (go_at_call 153; with_reducible refine quiet_below (Nat.le_refl _) (A5.out _ (Kp.out _))) | (go_at_call 154; with_reducible refine quiet_below (Nat.le_refl _) (A6.out _ (Kp.out _))) | (go_at_call 155; with_reducible refine quiet_below (Nat.le_refl _) (A7.out _ (Kp.out _)))))
    refine wpQuiet_nil ?_
    intro w2 hx
    have Z2 : Hid (Below w.heap.size w w2) := Sp.out _ (BelW.out hx)
    clear hx Kp Sp c0 c1 c2 c3 c4 c5 c7 c8 c9 c10 c11
    go_wp2
    go_ret
    exact ⟨rfl, Z2.out⟩
  cases o4
  · have e : R = false := by rw [Hv.out]; rfl
    subst e
    refine region_belowS W0.heap.size ?_
    try simp only [List.append]
    repeat (go_big_quiet_step (first | (go_at_call 149; with_reducible refine quiet_below (Nat.le_refl _) (A1.out _)) | (go_at_call 150; with_reducible refine quiet_below (Nat.le_refl _) (A2.out _ (Kp.out _))) | (go_at_call 151; with_reducible refine quiet_below (Nat.le_refl _) (A3.out _ (Kp.out _))) | (go_at_call 152; with_reducible refine quiet_below (Nat.le_refl _) (A4.out _ (Kp.out _))) | (go_at_call 153; with_reducible refine quiet_below (Nat.le_refl _) (A5.out _ (Kp.out _))) | (go_at_call 154; with_reducible refine quiet_below (Nat.le_refl _) (A6.out _ (Kp.out _))) | (go_at_call 155; with_reducible refine quiet_below (Nat.le_refl _) (A7.out _ (Kp.out _)))))
    refine wpQuiet_nil ?_
    intro w2 hx
    have Z2 : Hid (Below w.heap.size w w2) := Sp.out _ (BelW.out hx)
    clear hx Kp Sp c0 c1 c2 c3 c4 c5 c7 c8 c9 c10 c11
    go_wp2
    go_ret
    exact ⟨rfl, Z2.out⟩
  cases o5
  · have e : R = false := by rw [Hv.out]; rfl
    subst e
    refine region_belowS W0.heap.size ?_
    try simp only [List.append]
    repeat (go_big_quiet_step (first | (go_at_call 149; with_reducible refine quiet_below (Nat.le_refl _) (A1.out _)) | (go_at_call 150; with_reducible refine quiet_below (Nat.le_refl _) (A2.out _ (Kp.out _))) | (go_at_call 151; with_reducible refine quiet_below (Nat.le_refl _) (A3.out _ (Kp.out _))) | (go_at_call 152; with_reducible refine quiet_below (Nat.le_refl _) (A4.out _ (Kp.out _))) | (go_at_call 153; with_reducible refine quiet_below (Nat.le_refl _) (A5.out _ (Kp.out _))) | (go_at_call 154; with_reducible refine quiet_below (Nat.le_refl _) (A6.out _ (Kp.out _))) | (go_at_call 155; with_reducible refine quiet_below (Nat.le_refl _) (A7.out _ (Kp.out _)))))
    refine wpQuiet_nil ?_
    intro w2 hx
    have Z2 : Hid (Below w.heap.size w w2) := Sp.out _ (BelW.out hx)
    clear hx Kp Sp c0 c1 c2 c3 c4 c5 c7 c8 c9 c10 c11
    go_wp2
    go_ret
    exact ⟨rfl, Z2.out⟩
  cases o6
  · have e : R = false := by rw [Hv.out]; rfl
    subst e
    refine region_belowS W0.heap.size ?_
    try simp only [List.append]
    repeat (go_big_quiet_step (first | (go_at_call 149; with_reducible refine quiet_below (Nat.le_refl _) (A1.out _)) | (go_at_call 150; with_reducible refine quiet_below (Nat.le_refl _) (A2.out _ (Kp.out _))) | (go_at_call 151; with_reducible refine quiet_below (Nat.le_refl _) (A3.out _ (Kp.out _))) | (go_at_call 152; with_reducible refine quiet_below (Nat.le_refl _) (A4.out _ (Kp.out _))) | (go_at_call 153; with_reducible refine quiet_below (Nat.le_refl _) (A5.out _ (Kp.out _))) | (go_at_call 154; with_reducible refine quiet_below (Nat.le_refl _) (A6.out _ (Kp.out _))) | (go_at_call 155; with_reducible refine quiet_below (Nat.le_refl _) (A7.out _ (Kp.out _)))))
    refine wpQuiet_nil ?_
    intro w2 hx
    have Z2 : Hid (Below w.heap.size w w2) := Sp.out _ (BelW.out hx)
    clear hx Kp Sp c0 c1 c2 c3 c4 c5 c7 c8 c9 c10 c11
    go_wp2
    go_ret
    exact ⟨rfl, Z2.out⟩
  · have e : R = !o7 := by rw [Hv.out]; rfl
    subst e
    refine region_belowS W0.heap.size ?_
    try simp only [List.append]
    repeat (go_big_quiet_step (first | (go_at_call 149; with_reducible refine quiet_below (Nat.le_refl _) (A1.out _)) | (go_at_call 150; with_reducible refine quiet_below (Nat.le_refl _) (A2.out _ (Kp.out _))) | (go_at_call 151; with_reducible refine quiet_below (Nat.le_refl _) (A3.out _ (Kp.out _))) | (go_at_call 152; with_reducible refine quiet_below (Nat.le_refl _) (A4.out _ (Kp.out _))) | (go_at_call 153; with_reducible refine quiet_below (Nat.le_refl _) (A5.out _ (Kp.out _))) | (go_at_call 154; with_reducible refine quiet_below (Nat.le_refl _) (A6.out _ (Kp.out _))) | (go_at_call 155; with_reducible refine quiet_below (Nat.le_refl _) (A7.out _ (Kp.out _)))))
    refine wpQuiet_nil ?_
    intro w2 hx
    have Z2 : Hid (Below w.heap.size w w2) := Sp.out _ (BelW.out hx)
    clear hx Kp Sp c0 c1 c2 c3 c4 c5 c7 c8 c9 c10 c11
    go_wp2
    go_ret
    exact ⟨rfl, Z2.out⟩
end Go.Proofs.YtgebghkcikmfaaaGreatDoor

/-
  The walk of slices.EqualFunc on items and numbers, for whatever function tells yes or no. By the verifier.
-/
namespace Go.Proofs.YtgebghkcikmfaaaGreatDoor
open Go.RowKit Go.Shelf

/-- A function that tells yes or no of an item and a number, as long as all that lay lies. -/
structure EqTells (W0 : World) (g : FuncId) (fs cb : Array Value) (p : It → Int → Bool) : Prop where
  enters : Enters Tryz.prog g
  tells : ∀ (W : World) (r : It) (z : Int), Below W0.heap.size W0 W → Calls Tryz.prog g (fs ++ (#[r.val, .int .i64 z] ++ cb)) W fun e w' => e = .returned (.bool (p r z)) ∧ Below W.heap.size W w'
def eqAll (p : It → Int → Bool) (l : List It) (s : List Int) (n : Nat) : Bool := (List.range n).all fun k => p (itAt l k) (s[k]?.getD 0)
theorem eqAll_succ (p : It → Int → Bool) (l : List It) (s : List Int) (n : Nat) : eqAll p l s (n + 1) = (eqAll p l s n && p (itAt l n) (s[n]?.getD 0)) := by
  simp [eqAll, List.range_succ]
theorem eqAll_hit {p : It → Int → Bool} {l : List It} {s : List Int} {k n : Nat} (h : k < n) (g : p (itAt l k) (s[k]?.getD 0) = false) : eqAll p l s n = false := by
  unfold eqAll
  rw [List.all_eq_false]
  exact ⟨k, List.mem_range.2 h, by rw [g]; decide⟩

set_option maxHeartbeats 1600000 in
set_option maxRecDepth 100000 in
theorem implEqualT (a : Option Addr) (c : Nat) (l : List It) (a2 : Option Addr) (c2 : Nat) (s : List Int) (g : FuncId) (fs cb : Array Value) (p : It → Int → Bool) (w : World) (hT : l.length ≤ 1048576) (hS : s.length ≤ 1048576) (h : Hid (ItsAt w a l)) (h2 : Hid (IntsAt w a2 s)) (ht : Hid (EqTells w g fs cb p)) :
    Calls Tryz.prog 159 #[.slice a l.length c, .slice a2 s.length c2, .func (.func g) fs cb] w fun e w' => e = .returned (.bool (decide (l.length = s.length) && eqAll p l s l.length)) ∧ Below w.heap.size w w' := by
  have eg : ∀ args w, (callFunc g args).run Tryz.prog w = .ok (.enter g args) w := ht.out.enters
  obtain ⟨len, hlen⟩ : ∃ n, l.length = n := ⟨_, rfl⟩
  have Hlen : Hid (l.length = len) := hlen
  obtain ⟨ls, hls⟩ : ∃ n, s.length = n := ⟨_, rfl⟩
  have Hls : Hid (s.length = ls) := hls
  rw [hlen] at hT
  rw [hls] at hS
  rw [hlen, hls]
  clear hlen hls
  have Hv : Hid ((decide (len = ls) && eqAll p l s len) = (decide (len = ls) && eqAll p l s len)) := rfl
  generalize hR : (decide (len = ls) && eqAll p l s len) = R at Hv ⊢
  have HR : Hid (R = (decide (len = ls) && eqAll p l s len)) := hR.symm
  clear hR Hv
  by_cases hne : len = ls
  case neg =>
    have e1 : R = false := by rw [HR.out, decide_eq_false hne]; rfl
    subst e1
    have hn2 : ¬ (len : Int) = (ls : Int) := by omega
    have hn3 : ((len : Int) != (ls : Int)) = true := by simpa using hn2
    go_enter Tryz.func159, Tryz.ntmps159
    go_wp2
    go_ret
    exact ⟨rfl, Below.refl _ _⟩
  subst hne
  have HR2 : Hid (R = eqAll p l s len) := by show R = _; rw [HR.out, decide_eq_true rfl, Bool.true_and]
  clear HR
  go_enter Tryz.func159, Tryz.ntmps159
  go_wp2
  go_loopw [7, 8, 9, 17] (fun _ _ _ i wr => ∃ k : Nat, k ≤ len ∧ i = .int .i64 k ∧ Hid (eqAll p l s k = true) ∧ Hid (Below w.heap.size w wr)) (fun _ _ _ i _ => len - (intOf i).toNat)
  case atStart => exact ⟨0, Nat.zero_le _, rfl, rfl, Below.refl _ _⟩
  case round =>
    obtain ⟨k, hk, rfl, Hg, H1⟩ := hrel
    by_cases hlt : k < len
    · have R1 : Hid (ItsAt wr a l) := h.out.below H1.out
      obtain ⟨b1, o1, ha1, hb1, -⟩ := R1.out k (by rw [Hlen.out]; exact hlt)
      subst ha1
      obtain ⟨c0, c1, c2'⟩ := R1.out.cells (k := k) (by rw [Hlen.out]; exact hlt)
      have S1 : Hid (IntsAt wr a2 s) := h2.out.below H1.out
      obtain ⟨b2, o2, ha2, hb2, d0⟩ := S1.out k (by rw [Hls.out]; exact hlt)
      subst ha2
      have HC := fun W q => ht.out.tells W (itAt l k) (s[k]?.getD 0) (H1.out.trans ((show Below wr.heap.size wr W from q).mono H1.out.size))
      have hs := eqAll_succ p l s k
      rw [Hg.out, Bool.true_and] at hs
      have hh : p (itAt l k) (s[k]?.getD 0) = false → eqAll p l s len = false := fun e => eqAll_hit hlt e
      unfold It.val at HC
      have hlt' : (k : Int) < (len : Int) := by omega
      generalize p (itAt l k) (s[k]?.getD 0) = pk at HC hs hh
      generalize itAt l k = r at c0 c1 c2' HC
      generalize s[k]?.getD 0 = z at d0 HC
      obtain ⟨r1, r2, r3⟩ := r
      simp only at c0 c1 c2' HC
      have Hs : Hid _ := hs
      have Hh : Hid _ := hh
      have HC' : Hid _ := HC
      clear hs hh HC R1 S1
      have N : Hid (Boxed (wr.alloc (.cells #[.int .i64 0, .int .i64 0, .int .i64 0] 52)) wr.heap.size #[.int .i64 0, .int .i64 0, .int .i64 0] 52) := Boxed.new _ _ _
      have bN : Hid (Below wr.heap.size wr ((wr.alloc (.cells #[.int .i64 0, .int .i64 0, .int .i64 0] 52)).setRow wr.heap.size #[.int .i64 r1, .int .i64 r2, .int .i64 r3])) := below_setRow ((Below.refl _ _).alloc (Nat.le_refl _) _) (Nat.le_refl _) _
      have X2 : Hid (Boxed ((wr.alloc (.cells #[.int .i64 0, .int .i64 0, .int .i64 0] 52)).setRow wr.heap.size #[.int .i64 r1, .int .i64 r2, .int .i64 r3]) wr.heap.size #[.int .i64 r1, .int .i64 r2, .int .i64 r3] 52) := setRow_heap _ _ _ _ _ _ N.out
      have d1 : ((wr.alloc (.cells #[.int .i64 0, .int .i64 0, .int .i64 0] 52)).setRow wr.heap.size #[.int .i64 r1, .int .i64 r2, .int .i64 r3]).cell? ⟨b2, o2 + k, none⟩ = some (.int .i64 z) := by rw [bN.out.cell (p := ⟨b2, o2 + k, none⟩) hb2]; exact d0
      go_upto_region 6 with (refine wpList_store_row rfl 52 (.tmp 8) (.tmp 21) rfl wr.heap.size #[.int .i64 r1, .int .i64 r2, .int .i64 r3] rfl rfl _ _ N.out (by kernel_rfl) rfl (by simp [Value.oneCell']) ?_)
      try simp only [Act.put]
      generalize (wr.alloc (.cells #[.int .i64 0, .int .i64 0, .int .i64 0] 52)).setRow wr.heap.size #[.int .i64 r1, .int .i64 r2, .int .i64 r3] = w2 at bN X2 d1 ⊢
      have HC2 := HC'.out w2 bN.out
      have B2 : Hid (Below w.heap.size w w2) := H1.out.trans (bN.out.mono H1.out.size)
      clear HC' N bN
      have x0 : w2.cell? ⟨wr.heap.size, 0, none⟩ = some (.int .i64 r1) := X2.out.cell 0 rfl
      have x1 : w2.cell? ⟨wr.heap.size, 1, none⟩ = some (.int .i64 r2) := X2.out.cell 1 rfl
      have x2 : w2.cell? ⟨wr.heap.size, 2, none⟩ = some (.int .i64 r3) := X2.out.cell 2 rfl
      cases pk
      · have e1 : R = false := by rw [HR2.out]; exact Hh.out rfl
        subst e1
        go_wp2_with fail
        refine HC2.mono ?_
        rintro e w3 ⟨rfl, q⟩
        have B3 : Hid (Below w.heap.size w w3) := B2.out.trans (q.mono B2.out.size)
        clear q HC2 B2 X2 x0 x1 x2 d1 d0 c0 c1 c2'
        go_wp2
        go_ret
        exact ⟨rfl, B3.out⟩
      · go_wp2_with fail
        refine HC2.mono ?_
        rintro e w3 ⟨rfl, q⟩
        have B3 : Hid (Below w.heap.size w w3) := B2.out.trans (q.mono B2.out.size)
        clear q HC2 B2 X2 x0 x1 x2 d1 d0 c0 c1 c2'
        go_wp2
        go_roundw
        case rel => exact ⟨k + 1, by omega, by go_num, Hs.out, B3⟩
        case measure => simp [intOf]; omega
    · obtain rfl : k = len := by omega
      have e1 : R = true := by rw [HR2.out]; exact Hg.out
      subst e1
      go_wp2
      go_ret
      exact ⟨rfl, H1.out⟩
end Go.Proofs.YtgebghkcikmfaaaGreatDoor

/-
  The walk of the program's eachLeafKept. By the verifier.
-/
namespace Go.Proofs.YtgebghkcikmfaaaGreatDoor
open Go.RowKit Go.Shelf

set_option maxHeartbeats 1600000 in
set_option maxRecDepth 100000 in
theorem implKept1 (g : Gt) (x : Ga) (r : It) (z : Int) (B : Nat) (w : World) (hB : Hid (Boxed w B (g.cells x) 50)) :
    Calls Tryz.prog 160 #[r.val, .int .i64 z, .pointer (some ⟨B, 0, none⟩)] w fun e w' => e = .returned (.bool (decide (g.ln.on r.size = z))) ∧ Below w.heap.size w w' := by
  have O := fun w => implOn g.ln r.size w
  obtain ⟨r1, r2, r3⟩ := r
  simp only [It.val] at O ⊢
  have c0 : w.cell? ⟨B, 0, none⟩ = some (.int .i64 g.ln.kind) := hB.out.cell 0 rfl
  have c1 : w.cell? ⟨B, 1, none⟩ = some (.int .i64 g.ln.extra) := hB.out.cell 1 rfl
  have c2 : w.cell? ⟨B, 2, none⟩ = some (.int .i64 g.ln.least) := hB.out.cell 2 rfl
  have hl : B < w.heap.size := hB.out.under
  have hne : ¬ w.heap.size = B := by omega
  have hne2 : ¬ B = w.heap.size := by omega
  have H : Hid (Below w.heap.size w (w.alloc (.cells #[.int .i64 r1, .int .i64 r2, .int .i64 r3] 52))) := (Below.refl _ _).alloc (Nat.le_refl _) _
  unfold Ln.val at O
  generalize g.ln.on r2 = y at O ⊢
  generalize g.ln.kind = y1 at O c0
  generalize g.ln.extra = y2 at O c1
  generalize g.ln.least = y3 at O c2
  have O' : Hid _ := O
  clear O hB
  go_enter Tryz.func160, Tryz.ntmps160
  go_wp2_with fail
  refine (O'.out _).mono ?_
  rintro e w2 ⟨rfl, q⟩
  have H2 : Hid (Below w.heap.size w w2) := H.out.trans (q.mono H.out.size)
  clear q O' H
  go_wp2
  go_ret
  exact ⟨ret_bool (by rw [Bool.eq_iff_iff]; simp), H2.out⟩

theorem kept_hit {g : Gt} {k : Nat} (h : k < g.rows.lists.length) (e : keptB g.ln (izAt g.rows.lists k) (fwAt g.fair.flows k).sizes = false) : ((List.range g.rows.lists.length).all fun i => keptB g.ln (izAt g.rows.lists i) (fwAt g.fair.flows i).sizes) = false := by
  rw [List.all_eq_false]
  exact ⟨k, List.mem_range.2 h, by rw [e]; decide⟩
theorem kept_succ (g : Gt) (k : Nat) : ((List.range (k + 1)).all fun i => keptB g.ln (izAt g.rows.lists i) (fwAt g.fair.flows i).sizes) = (((List.range k).all fun i => keptB g.ln (izAt g.rows.lists i) (fwAt g.fair.flows i).sizes) && keptB g.ln (izAt g.rows.lists k) (fwAt g.fair.flows k).sizes) := by
  simp [List.range_succ]

set_option maxHeartbeats 3200000 in
set_option maxRecDepth 100000 in
theorem implKept (g : Gt) (x : Ga) (w : World) (hB : g.big ≤ 1048576) (h : Hid (GtV w x g)) :
    Calls Tryz.prog 92 #[g.val x] w fun e w' => e = .returned (.bool g.kept) ∧ Below w.heap.size w w' := by
  obtain ⟨s1, s2, s3, s4, s5, s6, s7⟩ := Gt.small hB
  obtain ⟨sT, -, sin⟩ := Rw.small s5
  obtain ⟨fT, -, fin⟩ := Fs.small s7
  have E : Hid (∀ (k : Nat), k < g.rows.lists.length → ∀ (ak : Option Addr) (ck : Nat) (a2 : Option Addr) (c2 : Nat) (B : Nat) (W : World), Boxed W B (g.cells x) 50 → ItsAt W ak (izAt g.rows.lists k) → IntsAt W a2 (fwAt g.fair.flows k).sizes → (fwAt g.fair.flows k).sizes.length ≤ 1048576 → Calls Tryz.prog 159 #[.slice ak (izAt g.rows.lists k).length ck, .slice a2 (fwAt g.fair.flows k).sizes.length c2, .func (.func 160) #[] #[.pointer (some ⟨B, 0, none⟩)]] W fun e w' => e = .returned (.bool (keptB g.ln (izAt g.rows.lists k) (fwAt g.fair.flows k).sizes)) ∧ Below W.heap.size W w') := fun k hk ak ck a2 c2 B W h1 h2 h3 h4 => implEqualT ak ck _ a2 c2 _ 160 #[] #[.pointer (some ⟨B, 0, none⟩)] (fun r z => decide (g.ln.on r.size = z)) W (sin k hk) h4 h2 h3 ⟨enters_of Tryz.func160 (by kernel_rfl) rfl, fun W2 r z hW => implKept1 g x r z B W2 (h1.below h1.under hW)⟩
  have Hs : Hid (∀ k, k < g.fair.flows.length → (fwAt g.fair.flows k).sizes.length ≤ 1048576) := fun k hk => fin k hk
  have Hh : Hid (∀ k, k < g.rows.lists.length → keptB g.ln (izAt g.rows.lists k) (fwAt g.fair.flows k).sizes = false → ((List.range g.rows.lists.length).all fun i => keptB g.ln (izAt g.rows.lists i) (fwAt g.fair.flows i).sizes) = false) := fun k hk e => kept_hit hk e
  have Hn : Hid (∀ k, ((List.range (k + 1)).all fun i => keptB g.ln (izAt g.rows.lists i) (fwAt g.fair.flows i).sizes) = (((List.range k).all fun i => keptB g.ln (izAt g.rows.lists i) (fwAt g.fair.flows i).sizes) && keptB g.ln (izAt g.rows.lists k) (fwAt g.fair.flows k).sizes)) := fun k => kept_succ g k
  have Hv : Hid (g.kept = (decide (g.rows.lists.length = g.leaves.length) && (decide (g.steers.length = g.leaves.length) && (decide (g.fair.flows.length = g.leaves.length) && (List.range g.rows.lists.length).all fun i => keptB g.ln (izAt g.rows.lists i) (fwAt g.fair.flows i).sizes)))) := rfl
  have Iz : Hid (IzAt w x.a5 g.rows.lists) := h.out.rows.spot
  have Fz : Hid (FwsAt w x.a7 g.fair.flows) := h.out.fair.spot
  generalize g.kept = R at Hv ⊢
  generalize (fun i => keptB g.ln (izAt g.rows.lists i) (fwAt g.fair.flows i).sizes) = P at Hh Hn Hv
  obtain ⟨W0, hW⟩ : ∃ W, W = w.alloc (.cells (g.cells x) 50) := ⟨_, rfl⟩
  have X0 : Hid (Boxed W0 w.heap.size (g.cells x) 50 ∧ Below w.heap.size w W0) := by
    rw [hW]
    exact ⟨Boxed.new _ _ _, (Below.refl _ _).alloc (Nat.le_refl _) _⟩
  have HW : Hid (W0 = _) := hW
  have c6 : W0.cell? ⟨w.heap.size, 6, none⟩ = some (.slice x.a4 g.leaves.length x.c4) := X0.out.1.cell 6 rfl
  have c8 : W0.cell? ⟨w.heap.size, 8, none⟩ = some (.slice x.a5 g.rows.lists.length x.c5) := X0.out.1.cell 8 rfl
  have c9 : W0.cell? ⟨w.heap.size, 9, none⟩ = some (.slice x.a6 g.steers.length x.c6) := X0.out.1.cell 9 rfl
  have c11 : W0.cell? ⟨w.heap.size, 11, none⟩ = some (.slice x.a7 g.fair.flows.length x.c7) := X0.out.1.cell 11 rfl
  clear hW h hB
  unfold Gt.val
  generalize g.leaves.length = n4 at c6 Hv s4
  generalize g.steers.length = n6 at c9 Hv s6
  have Hcs : Hid ((g.cells x).size = 14 ∧ (g.cells x).all (·.oneCell') = true) := ⟨Gt.cells_size g x, Gt.cells_one g x⟩
  have Gc : Hid (∀ W B, Boxed W B (g.cells x) 50 → W.cell? ⟨B, 11, none⟩ = some (.slice x.a7 g.fair.flows.length x.c7)) := fun W B hh => hh.cell 11 rfl
  generalize g.cells x = cs at E X0 HW Hcs Gc ⊢
  generalize x.a5 = p5 at Iz c8
  generalize x.a7 = p7 at Fz c11 Gc
  generalize x.c5 = q5 at c8
  generalize x.c7 = q7 at c11 Gc
  go_enter Tryz.func92, Tryz.ntmps92
  go_upto_region 1 with fail
  rw [← HW.out]
  clear HW
  have hw1 : Hid (w.heap.size < W0.heap.size) := X0.out.1.under
  obtain ⟨A, hA⟩ : ∃ A, w.heap.size = A := ⟨_, rfl⟩
  have HA : Hid (w.heap.size = A) := hA
  rw [hA] at c6 c8 c9 c11 ⊢
  rw [hA] at X0 hw1
  clear hA
  have hAw : Hid (A ≤ W0.heap.size) := by show A ≤ _; rw [← HA.out]; exact X0.out.2.size
  obtain ⟨nl, hnl⟩ : ∃ n, g.rows.lists.length = n := ⟨_, rfl⟩
  have Hnl : Hid (g.rows.lists.length = nl) := hnl
  rw [hnl] at c8 Hv Hh E sT
  obtain ⟨nf, hnf⟩ : ∃ n, g.fair.flows.length = n := ⟨_, rfl⟩
  have Hnf : Hid (g.fair.flows.length = nf) := hnf
  rw [hnf] at c11 Hv Hs Gc fT
  clear hnl hnf
  by_cases h1 : nl = n4
  case neg =>
    have e1 : R = false := by rw [Hv.out, decide_eq_false h1]; rfl
    subst e1
    have hn2 : ¬ (nl : Int) = (n4 : Int) := by omega
    have hn3 : ((nl : Int) != (n4 : Int)) = true := by simpa using hn2
    go_wp2
    go_ret
    exact ⟨rfl, by rw [HA.out]; exact X0.out.2⟩
  subst h1
  by_cases h2 : n6 = nl
  case neg =>
    have e1 : R = false := by rw [Hv.out, decide_eq_true rfl, decide_eq_false h2]; rfl
    subst e1
    have hn2 : ¬ (n6 : Int) = (nl : Int) := by omega
    have hn3 : ((n6 : Int) != (nl : Int)) = true := by simpa using hn2
    go_wp2
    go_ret
    exact ⟨rfl, by rw [HA.out]; exact X0.out.2⟩
  subst h2
  by_cases h3 : nf = n6
  case neg =>
    have e1 : R = false := by rw [Hv.out, decide_eq_true rfl, decide_eq_false h3]; rfl
    subst e1
    have hn2 : ¬ (nf : Int) = (n6 : Int) := by omega
    have hn3 : ((nf : Int) != (n6 : Int)) = true := by simpa using hn2
    go_wp2
    go_ret
    exact ⟨rfl, by rw [HA.out]; exact X0.out.2⟩
  subst h3
  have HR : Hid (R = (List.range nf).all P) := by show R = _; rw [Hv.out, decide_eq_true rfl, Bool.true_and, Bool.true_and, Bool.true_and]
  clear Hv s1 s2 s3 s4 s5 s6 s7 sin fin
  go_upto_region 4 with fail
  go_wp2
  clear c6 c8 c9 c11
  go_loopw [4, 5, 34] (fun _ _ i wr => ∃ k : Nat, k ≤ nf ∧ i = .int .i64 k ∧ Hid ((List.range k).all P = true) ∧ Hid (Below W0.heap.size W0 wr)) (fun _ _ i _ => nf - (intOf i).toNat)
  case atStart => exact ⟨0, Nat.zero_le _, rfl, rfl, Below.refl _ _⟩
  case round =>
    obtain ⟨k, hk, rfl, Hg, H1⟩ := hrel
    by_cases hlt : k < nf
    · have hlt' : (k : Int) < (nf : Int) := by omega
      have bw : Below w.heap.size w wr := by rw [HA.out]; exact X0.out.2.trans (H1.out.mono hAw.out)
      have Iz2 : IzAt wr p5 g.rows.lists := Iz.out.below bw
      have Fz2 : FwsAt wr p7 g.fair.flows := Fz.out.below bw
      have Bx : Hid (Boxed wr A cs 50) := X0.out.1.below hw1.out H1.out
      have cF := Gc.out wr A Bx.out
      obtain ⟨b1, o1, ak, ck, ha1, hb1, d0, hit, -⟩ := Iz2 k (by rw [Hnl.out]; exact hlt)
      obtain ⟨b2, o2, a2, c2, ha2, hb2, ⟨e0, e1, e2⟩, hin, -⟩ := Fz2 k (by rw [Hnf.out]; exact hlt)
      subst ha1 ha2
      have C := E.out k hlt ak ck a2 c2 A wr Bx.out hit hin (Hs.out k hlt)
      have hn := Hn.out k
      rw [Hg.out, Bool.true_and] at hn
      have hh := Hh.out k hlt
      have HR2 : Hid (keptB g.ln (izAt g.rows.lists k) (fwAt g.fair.flows k).sizes = false → R = false) := fun e => by rw [HR.out]; exact hh e
      generalize keptB g.ln (izAt g.rows.lists k) (fwAt g.fair.flows k).sizes = kb at C hn HR2
      generalize (izAt g.rows.lists k).length = m1 at C d0
      generalize (fwAt g.fair.flows k).sizes.length = m2 at C e2
      have Hn2 : Hid _ := hn
      have hmf : ∀ (fn : Fn) (first cap : Array Value) (w : World), (Instr.makeFunc fn first cap).run Tryz.prog w = .ok (.func fn first cap) w := fun _ _ _ _ => rfl
      have B2 : Hid (Below W0.heap.size W0 wr) := H1
      clear hn hh e0 e1 hit hin Iz2 Fz2 bw
      cases kb
      · have e1 : R = false := HR2.out rfl
        subst e1
        go_wp2_with fail
        refine C.mono ?_
        rintro e w3 ⟨rfl, q⟩
        have B3 : Hid (Below w.heap.size w w3) := by
          rw [HA.out]
          exact (X0.out.2.trans (B2.out.mono hAw.out)).trans (q.mono (Nat.le_trans hAw.out B2.out.size))
        clear q C
        go_wp2
        go_ret
        exact ⟨rfl, B3.out⟩
      · go_wp2_with fail
        refine C.mono ?_
        rintro e w3 ⟨rfl, q⟩
        have B3 : Hid (Below W0.heap.size W0 w3) := B2.out.trans (q.mono B2.out.size)
        clear q C
        go_wp2
        go_roundw
        case rel => exact ⟨k + 1, by omega, by go_num, Hn2.out, B3⟩
        case measure => simp [intOf]; omega
    · obtain rfl : k = nf := by omega
      have e1 : R = true := by rw [HR.out]; exact Hg.out
      subst e1
      go_wp2
      go_ret
      exact ⟨rfl, by rw [HA.out]; exact X0.out.2.trans (H1.out.mono hAw.out)⟩
end Go.Proofs.YtgebghkcikmfaaaGreatDoor

/-
  The walk of the program's nextOk. By the verifier.
-/
namespace Go.Proofs.YtgebghkcikmfaaaGreatDoor
open Go.RowKit Go.Shelf

set_option maxHeartbeats 1600000 in
set_option maxRecDepth 100000 in
theorem implNextA (g : Gt) (x : Ga) (r : It) (B : Nat) (w : World) (hB : Hid (Boxed w B (g.cells x) 50)) :
    Calls Tryz.prog 164 #[r.val, .pointer (some ⟨B, 0, none⟩)] w fun e w' => e = .returned (.bool (decide (g.next ≤ r.id))) ∧ Below w.heap.size w w' := by
  obtain ⟨r1, r2, r3⟩ := r
  simp only [It.val]
  have c0 : w.cell? ⟨B, 12, none⟩ = some (.int .i64 g.next) := hB.out.cell 12 rfl
  have hl : B < w.heap.size := hB.out.under
  have hne : ¬ w.heap.size = B := by omega
  have hne2 : ¬ B = w.heap.size := by omega
  have H : Hid (Below w.heap.size w (w.alloc (.cells #[.int .i64 r1, .int .i64 r2, .int .i64 r3] 52))) := (Below.refl _ _).alloc (Nat.le_refl _) _
  generalize g.next = y at c0 ⊢
  clear hB
  go_enter Tryz.func164, Tryz.ntmps164
  go_wp2
  go_ret
  exact ⟨rfl, H.out⟩

set_option maxHeartbeats 1600000 in
theorem implNextL (g : Gt) (x : Ga) (ak : Option Addr) (ck : Nat) (l : List It) (B : Nat) (w : World) (hT : l.length ≤ 1048576) (h : ItsAt w ak l) (hB : Boxed w B (g.cells x) 50) :
    Calls Tryz.prog 162 #[.slice ak l.length ck, .pointer (some ⟨B, 0, none⟩)] w fun e w' => e = .returned (.bool (l.any fun r => decide (g.next ≤ r.id))) ∧ Below w.heap.size w w' := by
  have C := fun (_ : Nat) => implContainsT ak ck l 164 #[] #[.pointer (some ⟨B, 0, none⟩)] (fun k => k = B) (fun _ => True) (fun r => decide (g.next ≤ r.id)) w hT h (fun _ _ => trivial) ⟨enters_of Tryz.func164 (by kernel_rfl) rfl, fun k hk => by rw [hk]; exact hB.under, fun W r _ hW => implNextA g x r B W ((hW B rfl).trans hB)⟩
  generalize (l.any fun r => decide (g.next ≤ r.id)) = z at C ⊢
  generalize l.length = n at C ⊢
  have hmf : ∀ (fn : Fn) (first cap : Array Value) (w : World), (Instr.makeFunc fn first cap).run Tryz.prog w = .ok (.func fn first cap) w := fun _ _ _ _ => rfl
  have C' : Hid _ := C
  clear C h hB hT
  go_enter Tryz.func162, Tryz.ntmps162
  go_wp2_with fail
  refine (C'.out 0).mono ?_
  rintro e w' ⟨rfl, hb⟩
  have B2 : Hid (Below w.heap.size w w') := hb
  clear hb C'
  go_wp2
  go_ret
  exact ⟨rfl, B2.out⟩

set_option maxHeartbeats 1600000 in
set_option maxRecDepth 100000 in
theorem implNext (g : Gt) (x : Ga) (w : World) (hB : g.big ≤ 1048576) (h : Hid (GtV w x g)) :
    Calls Tryz.prog 93 #[g.val x] w fun e w' => e = .returned (.bool g.nextB) ∧ Below w.heap.size w w' := by
  obtain ⟨-, -, -, -, s5, -, -⟩ := Gt.small hB
  obtain ⟨sT, -, sin⟩ := Rw.small s5
  have C : Hid (∀ (B : Nat) (W : World), IzAt W x.a5 g.rows.lists → Boxed W B (g.cells x) 50 → Calls Tryz.prog 161 #[.slice x.a5 g.rows.lists.length x.c5, .func (.func 162) #[] #[.pointer (some ⟨B, 0, none⟩)]] W fun e w' => e = .returned (.bool (g.rows.lists.any fun l => l.any fun i => decide (g.next ≤ i.id))) ∧ Below W.heap.size W w') := fun B W h1 h2 => implContainsZ x.a5 x.c5 g.rows.lists 162 #[] #[.pointer (some ⟨B, 0, none⟩)] (fun l => l.any fun i => decide (g.next ≤ i.id)) W sT sin h1 ⟨enters_of Tryz.func162 (by kernel_rfl) rfl, fun W2 ak ck l hW hl hr => implNextL g x ak ck l B W2 hl hr (h2.below h2.under hW)⟩
  have F := fun B w hB => implFromOne 1000000 g.next B w hB
  have Iz : Hid (IzAt w x.a5 g.rows.lists) := h.out.rows.spot
  have Hv : Hid (g.nextB = (inB 1 1000000 g.next && !(g.rows.lists.any fun l => l.any fun i => decide (g.next ≤ i.id)))) := rfl
  generalize g.nextB = R at Hv ⊢
  generalize (g.rows.lists.any fun l => l.any fun i => decide (g.next ≤ i.id)) = an at C Hv
  generalize inB 1 1000000 g.next = ib at F Hv
  obtain ⟨W0, hW⟩ : ∃ W, W = w.alloc (.cells (g.cells x) 50) := ⟨_, rfl⟩
  have X0 : Hid (Boxed W0 w.heap.size (g.cells x) 50 ∧ Below w.heap.size w W0 ∧ IzAt W0 x.a5 g.rows.lists) := by
    rw [hW]
    exact ⟨Boxed.new _ _ _, (Below.refl _ _).alloc (Nat.le_refl _) _, Iz.out.alloc _⟩
  have HW : Hid (W0 = _) := hW
  have Cx : Hid (∀ W B, Boxed W B (g.cells x) 50 → W.cell? ⟨B, 12, none⟩ = some (.int .i64 g.next) ∧ W.cell? ⟨B, 8, none⟩ = some (.slice x.a5 g.rows.lists.length x.c5)) := fun W B hh => ⟨hh.cell 12 rfl, hh.cell 8 rfl⟩
  have F' : Hid _ := F
  clear F hW h hB Iz sin
  unfold Gt.val
  generalize g.cells x = cs at C X0 HW Cx ⊢
  generalize g.next = nx at F' Cx
  generalize g.rows.lists.length = n5 at C Cx sT
  have hmf : ∀ (fn : Fn) (first cap : Array Value) (w : World), (Instr.makeFunc fn first cap).run Tryz.prog w = .ok (.func fn first cap) w := fun _ _ _ _ => rfl
  go_enter Tryz.func93, Tryz.ntmps93
  go_upto_region 1 with fail
  rw [← HW.out]
  clear HW
  obtain ⟨c12, c8⟩ := Cx.out _ _ X0.out.1
  have hu := X0.out.1.under
  have N1 : Hid (Below W0.heap.size W0 (W0.alloc (.cells #[.int .i64 nx] 2))) := (Below.refl _ _).alloc (Nat.le_refl _) _
  cases ib
  · have e1 : R = false := by rw [Hv.out]; rfl
    subst e1
    go_wp2_with fail
    refine (F'.out _ W0 rfl).mono ?_
    rintro e w1 ⟨rfl, hw1⟩
    have B1 : Hid (Below w.heap.size w w1) := by rw [hw1]; exact X0.out.2.1.trans (N1.out.mono X0.out.2.1.size)
    clear hw1 F' N1
    go_wp2
    go_ret
    exact ⟨rfl, B1.out⟩
  have e1 : R = !an := by rw [Hv.out, Bool.true_and]
  subst e1
  go_wp2_with fail
  refine (F'.out _ W0 rfl).mono ?_
  rintro e w1 ⟨rfl, hw1⟩
  have b1 : Below W0.heap.size W0 w1 := by rw [hw1]; exact N1.out
  have X1 : Hid (Boxed w1 w.heap.size cs 50 ∧ Below w.heap.size w w1 ∧ IzAt w1 x.a5 g.rows.lists) := ⟨X0.out.1.below X0.out.1.under b1, X0.out.2.1.trans (b1.mono X0.out.2.1.size), X0.out.2.2.below b1⟩
  obtain ⟨d12, d8⟩ := Cx.out _ _ X1.out.1
  clear hw1 F' N1 b1 X0 c12 c8 hu
  go_wp2_with fail
  refine (C.out _ _ X1.out.2.2 X1.out.1).mono ?_
  rintro e w2 ⟨rfl, q⟩
  have B2 : Hid (Below w.heap.size w w2) := X1.out.2.1.trans (q.mono X1.out.2.1.size)
  clear q C X1 d12 d8
  go_wp2
  go_ret
  exact ⟨rfl, B2.out⟩
end Go.Proofs.YtgebghkcikmfaaaGreatDoor
