/-
  The walk of the program's map of routes: laid. By the verifier.
-/
import Derived.Test.YtilnjmpnhadidaaCpMap
import Derived.Test.YtilnjmpnhadidaaCpHop
import Derived.Test.YtilnjmpnhadidaaRtApp
namespace Go.Proofs.Ytilnjmpnhadidaa
open Go.RowKit Go.Maps

/-- What the map holds behind a list. -/
def gPut (g : Int → Int → Option Int) (r : Rt) : Int → Int → Option Int := fun p q => if p = r.net ∧ q = r.bits then some r.hop else g p q
def gOf (l : List Rt) : Int → Int → Option Int := l.foldl gPut fun _ _ => none
theorem gOf_take {l : List Rt} {k : Nat} (hk : k < l.length) : gOf (l.take (k + 1)) = gPut (gOf (l.take k)) (rtAt l k) := by
  unfold gOf
  rw [List.take_succ_eq_append_getElem hk, List.foldl_append, rtAt_lt hk]
  rfl
theorem gFold {l : List Rt} (h : OneAt l) : ∀ (g : Int → Int → Option Int) (x y z : Int), l.foldl gPut g x y = some z ↔ (⟨x, y, z⟩ ∈ l ∨ (∀ r ∈ l, ¬ (r.net = x ∧ r.bits = y)) ∧ g x y = some z) := by
  induction l with
  | nil => intro g x y z; simp
  | cons r l ih =>
    intro g x y z
    rw [List.foldl_cons, ih (h.sub fun q hq => List.mem_cons_of_mem _ hq)]
    constructor
    · rintro (h1 | ⟨h1, h2⟩)
      · exact .inl (List.mem_cons_of_mem _ h1)
      · unfold gPut at h2
        by_cases e : x = r.net ∧ y = r.bits
        · rw [if_pos e] at h2
          left
          have : (⟨x, y, z⟩ : Rt) = r := by
            obtain ⟨e1, e2⟩ := e
            cases h2
            cases r
            simp only [] at e1 e2
            subst e1 e2
            rfl
          rw [this]
          exact List.mem_cons_self
        · rw [if_neg e] at h2
          refine .inr ⟨fun q hq => ?_, h2⟩
          rcases List.mem_cons.1 hq with rfl | hq
          · exact fun hh => e ⟨hh.1.symm, hh.2.symm⟩
          · exact h1 q hq
    · rintro (h1 | ⟨h1, h2⟩)
      · rcases List.mem_cons.1 h1 with e | h1
        · by_cases hin : r ∈ l
          · left; rw [e]; exact hin
          · right
            refine ⟨fun q hq hh => ?_, ?_⟩
            · have := h q (List.mem_cons_of_mem _ hq) r List.mem_cons_self (by rw [hh.1, ← e]) (by rw [hh.2, ← e])
              subst this
              exact hin hq
            · unfold gPut
              rw [← e, if_pos ⟨rfl, rfl⟩]
        · exact .inl h1
      · right
        refine ⟨fun q hq => h1 q (List.mem_cons_of_mem _ hq), ?_⟩
        unfold gPut
        rw [if_neg (fun hh => h1 r List.mem_cons_self ⟨hh.1.symm, hh.2.symm⟩)]
        exact h2
theorem gOf_some {l : List Rt} (h : OneAt l) {x y z : Int} : gOf l x y = some z ↔ ⟨x, y, z⟩ ∈ l := by
  unfold gOf
  rw [gFold h]
  simp
theorem not_map {w : World} {b n : Nat} {g : Int → Int → Option Int} (h : HMap w b n g) {off : Nat} {v : Value} (c : ∃ o, w.cell? ⟨o, off, none⟩ = some v ∧ o = b) : False := by
  obtain ⟨D, ⟨es, clock, h1, _⟩, _⟩ := h
  obtain ⟨o, hc, rfl⟩ := c
  simp [World.cell?, h1] at hc
theorem RtsAt.off {w w' : World} {a : Option Addr} {l : List Rt} {b n : Nat} {g : Int → Int → Option Int} (h : RtsAt w a l) (hm : HMap w b n g) (hg : w.grownBy w' (some b)) : RtsAt w' a l := by
  intro k hk
  obtain ⟨o, off, e, ho, c0, c1, c2⟩ := h k hk
  have hne : o ≠ b := fun e => not_map hm ⟨o, c0, e⟩
  refine ⟨o, off, e, Nat.lt_of_lt_of_le ho hg.size, ?_, ?_, ?_⟩
  · exact hg.cell c0 (by simpa using hne)
  · exact hg.cell c1 (by simpa using hne)
  · exact hg.cell c2 (by simpa using hne)
theorem grown_below {w w' : World} {b : Nat} (h : Below w.heap.size w w') : w.grownBy w' (some b) := ⟨h.os, h.tape, h.output, h.size, fun k hk _ => h.block k hk⟩

set_option maxHeartbeats 1600000 in
theorem implLay (a : Option Addr) (cap : Nat) (l : List Rt) (b n : Nat) (g : Int → Int → Option Int) (w : World) (hT : l.length ≤ 64) (hok : Hid (∀ r ∈ l, r.ok = true)) (h : Hid (RtsAt w a l)) (hm : Hid (HMap w b n g)) :
    Calls Try.prog 51 #[.map (some b), .slice a l.length cap] w fun e w' => e = .returned (.tuple #[]) ∧ HMap w' b l.length (gOf l) ∧ w.grownBy w' (some b) := by
  obtain ⟨w1, hrun, hm1, g1⟩ := hm.out.wipe
  have H1 : Hid (HMap w1 b 0 (fun _ _ => none) ∧ w.grownBy w1 (some b) ∧ RtsAt w1 a l) := ⟨hm1, g1, h.out.off hm.out g1⟩
  clear hm1 g1
  obtain ⟨len, hlen⟩ : ∃ n, l.length = n := ⟨_, rfl⟩
  have Hlen : Hid (l.length = len) := hlen
  rw [hlen] at hT ⊢
  clear hlen h hm
  have C := fun r w => implPlace r w
  go_enter Try.func51, Try.ntmps51
  go_wp2
  go_loopw [9] (fun i wr => ∃ k : Nat, k ≤ len ∧ i = .int .i64 k ∧ Hid (HMap wr b k (gOf (l.take k)) ∧ w1.grownBy wr (some b))) (fun i _ => len - (intOf i).toNat)
  case atStart => exact ⟨0, Nat.zero_le _, rfl, H1.out.1, ⟨rfl, rfl, rfl, Nat.le_refl _, fun _ _ _ => rfl⟩⟩
  case round =>
    obtain ⟨k, hk, rfl, HR⟩ := hrel
    by_cases hlt : k < len
    · have R : RtsAt wr a l := H1.out.2.2.off H1.out.1 HR.out.2
      obtain ⟨b1, o1, ha1, hb1, -⟩ := R k (by rw [Hlen.out]; exact hlt)
      subst ha1
      obtain ⟨c0, c1, c2⟩ := cells_at R (k := k) (by rw [Hlen.out]; exact hlt)
      have hg := gOf_take (l := l) (k := k) (by rw [Hlen.out]; exact hlt)
      have hro : (rtAt l k).ok = true := hok.out _ (by rw [rtAt_lt (by rw [Hlen.out]; exact hlt)]; exact List.getElem_mem _)
      have Hg : Hid (gOf (l.take (k + 1)) = gPut (gOf (l.take k)) (rtAt l k)) := hg
      clear hg R
      obtain ⟨p1, p2, _, p4⟩ := ok_split hro
      have hlt' : (k : Int) < (len : Int) := by omega
      generalize rtAt l k = r at c0 c1 c2 Hg p1 p2 p4
      clear hro
      go_wp2_with fail
      have HW : Hid (HMap (wr.alloc (.cells #[.int .i64 r.net, .int .i64 r.bits, .int .i64 r.hop] 53)) b k (gOf (l.take k)) ∧ w1.grownBy (wr.alloc (.cells #[.int .i64 r.net, .int .i64 r.bits, .int .i64 r.hop] 53)) (some b)) := ⟨HR.out.1.kept (Below.heap_alloc _ _ _ HR.out.1.lt), HR.out.2.trans (World.grownBy_alloc _ _ _)⟩
      obtain ⟨B, hB⟩ : ∃ B, B = wr.heap.size := ⟨_, rfl⟩
      have e0 : (wr.alloc (.cells #[.int .i64 r.net, .int .i64 r.bits, .int .i64 r.hop] 53)).cell? ⟨wr.heap.size, 0, none⟩ = some (.int .i64 r.net) := by simp
      have e1 : (wr.alloc (.cells #[.int .i64 r.net, .int .i64 r.bits, .int .i64 r.hop] 53)).cell? ⟨wr.heap.size, 1, none⟩ = some (.int .i64 r.bits) := by simp
      have e2 : (wr.alloc (.cells #[.int .i64 r.net, .int .i64 r.bits, .int .i64 r.hop] 53)).cell? ⟨wr.heap.size, 2, none⟩ = some (.int .i64 r.hop) := by simp
      have hl : wr.heap.size < (wr.alloc (.cells #[.int .i64 r.net, .int .i64 r.bits, .int .i64 r.hop] 53)).heap.size := by simp
      clear HR c0 c1 c2
      rw [← hB] at e0 e1 e2 hl
      simp only [← hB]
      generalize (wr.alloc (.cells #[.int .i64 r.net, .int .i64 r.bits, .int .i64 r.hop] 53)) = w2 at HW e0 e1 e2 hl ⊢
      clear hB
      go_region_law (refine call_step rfl 55 rfl #[.agg #[.int .i64 r.net, .int .i64 r.bits, .int .i64 r.hop]] (by kernel_rfl) (C r _) ?_; rintro e w4 ⟨rfl, b4⟩; refine ⟨_, rfl, ?_⟩; have f2 : w4.cell? ⟨B, 2, none⟩ = some (.int .i64 r.hop) := cell_of_below b4 hl e2; obtain ⟨w5, hr5, m5, g5⟩ := (HW.out.1.kept (w' := w4) (b4.block _ HW.out.1.lt)).store (by unfold maxLen; omega) (wf_of (x := r.net) (by omega) (by omega)) (wf_of (x := r.bits) (by omega) (by omega)) (wf_of (x := r.hop) (by omega) (by omega)); have H5 : Hid (HMap w5 b (k + 1) (gOf (l.take (k + 1))) ∧ w1.grownBy w5 (some b)) := ⟨by rw [Hg.out]; exact m5, (HW.out.2.trans (grown_below ((Below.refl _ w2).drew.trans b4))).trans g5⟩; unfold pv at hr5; unfold pv; clear m5 g5 b4)
      all_goals
        go_wp2
        go_roundw
        case rel => exact ⟨k + 1, by omega, by go_num, H5⟩
        case measure => simp [intOf]; omega
    · obtain rfl : k = len := by omega
      go_wp2
      have hh := HR.out.1
      rw [List.take_of_length_le (by rw [Hlen.out]; omega)] at hh
      refine bodyPost_end (v := .tuple #[]) ?_ rfl ?_
      · simp [results, Try.results51, go_sem]
      · exact ⟨rfl, hh, H1.out.2.1.trans HR.out.2⟩
end Go.Proofs.Ytilnjmpnhadidaa
