import Derived.Test.YtfkkmjejmflgjaaQ6RwFn
import Derived.RegionTactic
import Derived.WalkKit
import Derived.Test.YtfkkmjejmflgjaaQ0SrPlain
import Derived.Test.YtfkkmjejmflgjaaQ11Quiet
import Derived.Test.YtfkkmjejmflgjaaQ28IzMark
import Derived.Test.YtfkkmjejmflgjaaQ2SsV
import Derived.Test.YtfkkmjejmflgjaaQ9StepRow
import Derived.Laws.ResultCell
import Derived.Laws.CopyOwn
/-
  The walk of the laws' comparison of records (Item), where both hold the same. By the verifier, by program.
-/
namespace Go.Proofs.Ytfkkmjejmflgjaa
open Go.RowKit

set_option maxHeartbeats 1600000 in
theorem eqIt (r : It) (w : World) :
    Calls Try.prog 88 #[r.val, r.val] w fun e w' => e = .returned (.bool true) ∧ Below w.heap.size w w' := by
  unfold It.val
  obtain ⟨v0, v1, v2⟩ := r
  simp only []
  go_enter Try.func88, Try.ntmps88
  go_wp2
  go_ret
  exact ⟨rfl, ((Below.refl _ w).alloc (Nat.le_refl _) _).alloc (by simp) _⟩
end Go.Proofs.Ytfkkmjejmflgjaa

/-
  The walks of the laws' copies of lists of records (Item), of their sizes, and of their comparisons where both hold the same. By the verifier, by program.
-/
namespace Go.Proofs.Ytfkkmjejmflgjaa
open Go.RowKit

set_option maxHeartbeats 3200000 in
set_option maxRecDepth 100000 in
theorem eqIts (a1 a2 : Option Addr) (cap1 cap2 : Nat) (l : List It) (w : World) (hT : l.length ≤ 1048576) (h1 : Hid (ItsAt w a1 l)) (h2 : Hid (ItsAt w a2 l)) :
    Calls Try.prog 81 #[.slice a1 l.length cap1, .slice a2 l.length cap2] w fun e w' => e = .returned (.bool true) ∧ Below w.heap.size w w' := by
  obtain ⟨len, hlen⟩ : ∃ n, l.length = n := ⟨_, rfl⟩
  rw [hlen] at hT ⊢
  have Hlen : Hid (l.length = len) := hlen
  clear hlen
  go_enter Try.func81, Try.ntmps81
  go_wp2
  go_loopw [5] (fun i wr => ∃ k : Nat, k ≤ len ∧ i = .int .i64 k ∧ Hid (Below w.heap.size w wr)) (fun i _ => len - (intOf i).toNat)
  case atStart => exact ⟨0, Nat.zero_le _, rfl, Below.refl _ _⟩
  case round =>
    obtain ⟨k, hk, rfl, hb⟩ := hrel
    by_cases hlt : k < len
    · have R1 : Hid (ItsAt wr a1 l) := h1.out.below hb.out
      have R2 : Hid (ItsAt wr a2 l) := h2.out.below hb.out
      obtain ⟨b1, o1, ha1, -⟩ := R1.out k (by rw [Hlen.out]; exact hlt)
      obtain ⟨b2, o2, ha2, -⟩ := R2.out k (by rw [Hlen.out]; exact hlt)
      subst ha1; subst ha2
      have F1 := fun p : BelW wr.heap.size wr => (R1.out.below p.h).cells (k := k) (by rw [Hlen.out]; exact hlt)
      have F2 := fun p : BelW wr.heap.size wr => (R2.out.below p.h).cells (k := k) (by rw [Hlen.out]; exact hlt)
      have E := fun w => eqIt (itAt l k) w
      unfold It.val at E
      generalize itAt l k = r at F1 F2 E
      have f1_0 := fun p => (F1 p).1
      have f1_1 := fun p => (F1 p).2.1
      have f1_2 := fun p => (F1 p).2.2
      have f2_0 := fun p => (F2 p).1
      have f2_1 := fun p => (F2 p).2.1
      have f2_2 := fun p => (F2 p).2.2
      clear F1 F2
      have hlt' : (k : Int) < (len : Int) := by omega
      go_wp2
      haveI : Nonempty (BelW wr.heap.size wr) := ⟨⟨wr, Below.refl _ _⟩⟩
      refine region_below wr.heap.size (by kernel_rfl) (by kernel_rfl) ?_
      repeat (quiet_step ((go_at_call 88; refine quiet_below (Nat.le_refl _) (E _))))
      refine wpQuiet_nil ?_
      intro wq hx
      have hq := BelW.out hx
      have B : Hid (Below w.heap.size w wq) := hb.out.trans (hq.mono hb.out.size)
      clear hx hq f1_0 f1_1 f1_2 f2_0 f2_1 f2_2
      go_wp2
      go_roundw
      case rel => exact ⟨k + 1, by omega, by go_num, B⟩
      case measure => simp [intOf]; omega
    · go_wp2
      go_ret
      exact ⟨rfl, hb.out⟩

end Go.Proofs.Ytfkkmjejmflgjaa

/-
  The walks of the laws' copies of lists of lists of records (Item), of their sizes, and of their comparisons where both hold the same. By the verifier, by program.
-/
namespace Go.Proofs.Ytfkkmjejmflgjaa
open Go.RowKit

set_option maxHeartbeats 3200000 in
set_option maxRecDepth 100000 in
theorem eqIzs (a1 a2 : Option Addr) (cap1 cap2 : Nat) (ls : List (List It)) (w : World) (hT : ls.length ≤ 1048576) (hin : Hid (∀ k, k < ls.length → (izAt ls k).length ≤ 1048576)) (h1 : Hid (IzAt w a1 ls)) (h2 : Hid (IzAt w a2 ls)) :
    Calls Try.prog 63 #[.slice a1 ls.length cap1, .slice a2 ls.length cap2] w fun e w' => e = .returned (.bool true) ∧ Below w.heap.size w w' := by
  obtain ⟨len, hlen⟩ : ∃ n, ls.length = n := ⟨_, rfl⟩
  rw [hlen] at hT ⊢
  have Hlen : Hid (ls.length = len) := hlen
  clear hlen
  go_enter Try.func63, Try.ntmps63
  go_wp2
  go_loopw [5] (fun i wr => ∃ k : Nat, k ≤ len ∧ i = .int .i64 k ∧ Hid (Below w.heap.size w wr)) (fun i _ => len - (intOf i).toNat)
  case atStart => exact ⟨0, Nat.zero_le _, rfl, Below.refl _ _⟩
  case round =>
    obtain ⟨k, hk, rfl, hb⟩ := hrel
    by_cases hlt : k < len
    · have R1 : Hid (IzAt wr a1 ls) := h1.out.below hb.out
      have R2 : Hid (IzAt wr a2 ls) := h2.out.below hb.out
      obtain ⟨b1, o1, i1, c1, ha1, hb1, hc1, hr1, -⟩ := R1.out k (by rw [Hlen.out]; exact hlt)
      obtain ⟨b2, o2, i2, c2, ha2, hb2, hc2, hr2, -⟩ := R2.out k (by rw [Hlen.out]; exact hlt)
      subst ha1; subst ha2
      have hi := hin.out k (by rw [Hlen.out]; exact hlt)
      have E := fun w h1 h2 => eqIts i1 i2 c1 c2 (izAt ls k) w hi h1 h2
      generalize izAt ls k = l at hc1 hc2 hr1 hr2 E
      generalize l.length = n at hc1 hc2 E
      have f1 : ∀ p : BelW wr.heap.size wr, p.w'.cell? ⟨b1, o1 + k, none⟩ = some (.slice i1 n c1) := fun p => by rw [p.h.cell (p := ⟨b1, o1 + k, none⟩) hb1]; exact hc1
      have f2 : ∀ p : BelW wr.heap.size wr, p.w'.cell? ⟨b2, o2 + k, none⟩ = some (.slice i2 n c2) := fun p => by rw [p.h.cell (p := ⟨b2, o2 + k, none⟩) hb2]; exact hc2
      have g1 : Hid (∀ p : BelW wr.heap.size wr, ItsAt p.w' i1 l) := fun p => hr1.below p.h
      have g2 : Hid (∀ p : BelW wr.heap.size wr, ItsAt p.w' i2 l) := fun p => hr2.below p.h
      have E' : Hid _ := E
      clear hc1 hc2 hr1 hr2 E R1 R2
      have hlt' : (k : Int) < (len : Int) := by omega
      go_wp2
      haveI : Nonempty (BelW wr.heap.size wr) := ⟨⟨wr, Below.refl _ _⟩⟩
      refine region_below wr.heap.size (by kernel_rfl) (by kernel_rfl) ?_
      repeat (quiet_step ((go_at_call 81; refine quiet_below (Nat.le_refl _) (E'.out _ (g1.out _) (g2.out _)))))
      refine wpQuiet_nil ?_
      intro wq hx
      have hq := BelW.out hx
      have B : Hid (Below w.heap.size w wq) := hb.out.trans (hq.mono hb.out.size)
      clear hx hq f1 f2 g1 g2
      go_wp2
      go_roundw
      case rel => exact ⟨k + 1, by omega, by go_num, B⟩
      case measure => simp [intOf]; omega
    · go_wp2
      go_ret
      exact ⟨rfl, hb.out⟩
end Go.Proofs.Ytfkkmjejmflgjaa

/-
  A list of lists of records (Item) that is laid list by list, each in a block of its own. By the verifier, by program.
-/
namespace Go.Proofs.Ytfkkmjejmflgjaa
open Go.RowKit

/-- So many of the lists laid already, each in a block of its own behind the list of headers (block G). -/
structure IzB (ls : List (List It)) (len G k : Nat) (vs : List Value) (wr : World) : Prop where
  outer : wr.ownsRow G 88 1 (.slice (some ⟨G, 0, none⟩) len len) len (vs ++ List.replicate (len - k) (.slice none 0 0))
  len : vs.length = k
  row : ∀ i, i < k → ItRow G wr (izV vs i) (izAt ls i)
  hdr : ∀ i, i < k → ∃ g, izV vs i = .slice (some ⟨g, 0, none⟩) (izAt ls i).length (izAt ls i).length ∧ G < g ∧ g < wr.heap.size
  apart : ∀ i j, i < k → j < k → i ≠ j → (izV vs i).ownBlock ≠ (izV vs j).ownBlock
section
variable {ls : List (List It)} {len G k : Nat} {vs : List Value} {wr wd : World}
theorem IzB.below (h : IzB ls len G k vs wr) (g : Below wr.heap.size wr wd) : IzB ls len G k vs wd := by
  refine ⟨?_, h.len, fun i hi => (h.row i hi).carry fun x _ hx => g.block x hx, fun i hi => ?_, h.apart⟩
  · have hh := h.outer
    refine ⟨hh.1, hh.2.imp id ?_⟩
    rintro ⟨g0, cp, cur, h1, h2, h3, h4⟩
    exact ⟨g0, cp, cur, h1, h2, by rw [g.block g0 (Array.getElem?_eq_some_iff.1 h3).1]; exact h3, h4⟩
  · obtain ⟨x, e, h1, h2⟩ := h.hdr i hi
    exact ⟨x, e, h1, Nat.lt_of_lt_of_le h2 g.size⟩
theorem IzB.add (h : IzB ls len G k vs wr) (hk : k < len) (g : Below wr.heap.size wr wd) {x : Nat} (hx : ItRow wr.heap.size wd (.slice (some ⟨x, 0, none⟩) (izAt ls k).length (izAt ls k).length) (izAt ls k)) :
    IzB ls len G (k + 1) (vs ++ [.slice (some ⟨x, 0, none⟩) (izAt ls k).length (izAt ls k).length]) (wd.setCell ⟨G, k, none⟩ (.slice (some ⟨x, 0, none⟩) (izAt ls k).length (izAt ls k).length)) := by
  have hb := h.below g
  have hG : G < wr.heap.size := (World.ownsRow.lt h.outer G rfl).2
  obtain ⟨x1, x2⟩ := hx.lt x rfl
  have hl := h.len
  have oth : ∀ y, y ≠ G → (wd.setCell ⟨G, k, none⟩ (.slice (some ⟨x, 0, none⟩) (izAt ls k).length (izAt ls k).length)).heap[y]? = wd.heap[y]? := fun y hy => Below.heap_setCell _ _ _ _ hy
  have sz : (wd.setCell ⟨G, k, none⟩ (.slice (some ⟨x, 0, none⟩) (izAt ls k).length (izAt ls k).length)).heap.size = wd.heap.size := by simp [World.setCell]
  refine ⟨?_, by simp [hl], fun i hi => ?_, fun i hi => ?_, fun i j hi hj hne => ?_⟩
  · have := (hb.outer.stored k (.slice (some ⟨x, 0, none⟩) (izAt ls k).length (izAt ls k).length)).1
    have e : (vs ++ List.replicate (len - k) (Value.slice none 0 0)).set k (.slice (some ⟨x, 0, none⟩) (izAt ls k).length (izAt ls k).length) = (vs ++ [.slice (some ⟨x, 0, none⟩) (izAt ls k).length (izAt ls k).length]) ++ List.replicate (len - (k + 1)) (.slice none 0 0) := by
      obtain ⟨m, hm⟩ : ∃ m, len - k = m + 1 := ⟨len - k - 1, by omega⟩
      rw [hm, show len - (k + 1) = m by omega, List.replicate_succ, List.set_append_right _ _ (by omega), hl, Nat.sub_self, List.set_cons_zero]
      simp
    rw [e] at this
    exact this
  · by_cases e : i = k
    · subst e
      rw [← hl, izV_new, hl]
      exact (hx.carry fun y hy _ => oth y (by cases hy; show x ≠ G; omega)).mono (by omega)
    · rw [izV_old (by omega)]
      refine (hb.row i (by omega)).carry fun y hy _ => oth y ?_
      obtain ⟨z, e1, e2, _⟩ := h.hdr i (by omega)
      rw [e1] at hy
      cases hy
      show z ≠ G
      omega
  · by_cases e : i = k
    · subst e
      rw [← hl, izV_new, hl]
      exact ⟨x, rfl, by omega, by rw [sz]; exact x2⟩
    · rw [izV_old (by omega)]
      obtain ⟨z, e1, e2, e3⟩ := hb.hdr i (by omega)
      exact ⟨z, e1, e2, by rw [sz]; exact e3⟩
  · have old : ∀ i, i < k → (izV (vs ++ [.slice (some ⟨x, 0, none⟩) (izAt ls k).length (izAt ls k).length]) i).ownBlock ≠ some x := by
      intro i hi
      rw [izV_old (by omega)]
      obtain ⟨z, e1, _, e3⟩ := h.hdr i hi
      rw [e1]
      show some z ≠ some x
      intro e
      cases e
      omega
    have new : (izV (vs ++ [.slice (some ⟨x, 0, none⟩) (izAt ls k).length (izAt ls k).length]) k).ownBlock = some x := by
      rw [← hl, izV_new]
      rfl
    by_cases ei : i = k
    · subst ei
      rw [new]
      exact fun e => old j (by omega) e.symm
    · by_cases ej : j = k
      · subst ej
        rw [new]
        exact old i (by omega)
      · rw [izV_old (by omega), izV_old (by omega)]
        exact h.apart i j (by omega) (by omega) hne
theorem IzB.done (h : IzB ls len G len vs wr) (hl : ls.length = len) : IzV G wr.heap.size wr (.slice (some ⟨G, 0, none⟩) len len) vs ls := by
  subst hl
  have ho := h.outer
  rw [Nat.sub_self, List.replicate_zero, List.append_nil] at ho
  refine ⟨SlIn.of_row ho (fun k hk => (World.ownsRow.lt ho k hk).2) (Nat.le_refl _), h.len, fun i hi => ItIn.of_row (h.row i hi) (fun k hk => ((h.row i hi).lt k hk).2) (Nat.le_refl _), fun i hi => ?_, fun i j k o hi hj hne h1 h2 => ?_, fun i k o hi h1 h2 => ?_⟩
  · obtain ⟨g, e, _⟩ := h.hdr i hi
    exact ⟨_, _, e, Nat.le_refl _, fun h => by cases h⟩
  · exact h.apart i j hi hj hne ((izOwn h1).trans (izOwn h2).symm)
  · obtain ⟨g, e, h3, _⟩ := h.hdr i hi
    have e1 := izOwn h1
    have e2 := izOwn h2
    rw [e] at e1
    cases e1
    cases e2
    omega
end
theorem izMade (n : Nat) : (madeCells #[Value.slice none 0 0] (n * 1)).toList = List.replicate n (.slice none 0 0) := by
  apply List.ext_getElem?
  intro i
  by_cases hi : i < n
  · simp [madeCells, hi, Nat.mod_one]
  · rw [List.getElem?_eq_none (by simp [madeCells]; omega), List.getElem?_eq_none (by simp; omega)]

end Go.Proofs.Ytfkkmjejmflgjaa

/-
  A record of a number and a list (Rows): the laws' copies, sizes, comparisons, marks. By the verifier, by program.
-/
namespace Go.Proofs.Ytfkkmjejmflgjaa
open Go.RowKit

/-- With its numbers put in. -/
def Rw.mk' (s : Int) (r : Rw) : Rw := ⟨r.most, izMks s r.lists r.lists.length⟩
set_option maxHeartbeats 1600000 in
theorem eqRws (v1 v2 : Value) (r : Rw) (w : World) (hB : r.big ≤ 1048576) (h1 : Hid (RwAt w v1 r)) (h2 : Hid (RwAt w v2 r)) :
    Calls Try.prog 29 #[v1, v2] w fun e w' => e = .returned (.bool true) ∧ Below w.heap.size w w' := by
  obtain ⟨a1, c1, rfl, k1⟩ := h1.out
  obtain ⟨a2, c2, rfl, k2⟩ := h2.out
  obtain ⟨hT, -, hin⟩ := Rw.small hB
  have E := fun w h1 h2 => eqIzs a1 a2 c1 c2 r.lists w hT hin h1 h2
  clear h1 h2 hin hT hB
  obtain ⟨f, l⟩ := r
  simp only [Rw.val] at E k1 k2 ⊢
  generalize l.length = n at E ⊢
  have E' : Hid _ := E
  clear E
  have X : Hid (IzAt ((w.alloc (.cells #[.int .i64 f, .slice a1 n c1] 33)).alloc (.cells #[.int .i64 f, .slice a2 n c2] 33)) a1 l ∧ IzAt ((w.alloc (.cells #[.int .i64 f, .slice a1 n c1] 33)).alloc (.cells #[.int .i64 f, .slice a2 n c2] 33)) a2 l ∧ Below w.heap.size w ((w.alloc (.cells #[.int .i64 f, .slice a1 n c1] 33)).alloc (.cells #[.int .i64 f, .slice a2 n c2] 33))) :=
    ⟨(k1.alloc _).alloc _, (k2.alloc _).alloc _, ((Below.refl _ _).alloc (Nat.le_refl _) _).alloc (by simp) _⟩
  clear k1 k2
  go_enter Try.func29, Try.ntmps29
  go_wp2_with fail
  refine (E'.out _ X.out.1 X.out.2.1).mono ?_
  rintro e w1 ⟨rfl, q⟩
  have X1 : Hid (Below w.heap.size w w1) := X.out.2.2.trans (q.mono X.out.2.2.size)
  clear q
  go_wp2
  go_ret
  exact ⟨rfl, X1.out⟩

set_option maxHeartbeats 1600000 in
theorem markRws (s : Int) (s0 : 0 ≤ s) (s1 : s ≤ 549755813888) (b t : Nat) (v : Value) (r : Rw) (w : World) (hB : r.big ≤ 1048576) (H : Hid (RwIn b t w v r)) :
    Calls Try.prog 35 #[v, .int .i64 s] w fun e w' => e = .returned (.int .i64 (s + 3 * (izSum r.lists r.lists.length : Int))) ∧ RwIn b t w' v (r.mk' s) ∧ Span b t w w' := by
  obtain ⟨a, c, rfl, vs, H⟩ := H.out
  obtain ⟨hT, hS, -⟩ := Rw.small hB
  have C := fun w h => markIzs s s0 s1 b t (.slice a r.lists.length c) vs r.lists hT hS w h
  have Fin : Hid (∀ w', IzV b t w' (.slice a r.lists.length c) vs (izMks s r.lists r.lists.length) → RwIn b t w' (r.val a c) (r.mk' s)) := fun w' h => ⟨a, c, by simp [Rw.val, Rw.mk', izMks_length], vs, by simp only [Rw.mk', izMks_length]; exact h⟩
  have Sp : Hid (∀ w1 w', IzV b t w1 (.slice a r.lists.length c) vs r.lists → Turn (izHits vs r.lists) w1 w' → Span b t w1 w') := fun w1 w' h g => Span.of_turn g fun k o hh => by
    obtain ⟨i, hi, hh⟩ := hh
    have := SlIn.in (h.row i hi) (k := k) (o := o)
    rw [itcells_length] at this
    exact this hh
  generalize r.mk' s = r' at Fin ⊢
  generalize (izSum r.lists r.lists.length : Int) = N at C ⊢
  obtain ⟨f, l⟩ := r
  simp only [Rw.val] at C Fin Sp H ⊢
  generalize izMks s l l.length = l' at C Fin
  generalize l.length = n at C Fin Sp H ⊢
  have C' : Hid _ := C
  have X : Hid (IzV b t (w.alloc (.cells #[.int .i64 f, .slice a n c] 33)) (.slice a n c) vs l ∧ Below w.heap.size w (w.alloc (.cells #[.int .i64 f, .slice a n c] 33))) := ⟨H.below ((Below.refl _ _).alloc (Nat.le_refl _) _), (Below.refl _ _).alloc (Nat.le_refl _) _⟩
  clear C H hT hS hB
  go_enter Try.func35, Try.ntmps35
  go_wp2_with fail
  refine (C'.out _ X.out.1).mono ?_
  rintro e w1 ⟨rfl, q1, q2⟩
  have X1 : Hid (RwIn b t w1 (.agg #[.int .i64 f, .slice a n c]) r' ∧ Span b t w w1) := ⟨Fin.out _ q1, (Span.of_below X.out.2).trans (Sp.out _ _ X.out.1 q2)⟩
  clear q1 q2 X Fin Sp C'
  go_wp2
  go_ret
  exact ⟨rfl, X1.out⟩

set_option maxHeartbeats 1600000 in
theorem heldRws (s : Int) (s0 : 0 ≤ s) (s1 : s ≤ 549755813888) (v : Value) (r : Rw) (w : World) (hB : r.big ≤ 1048576) (H : Hid (RwAt w v (r.mk' s))) :
    Calls Try.prog 42 #[v, .int .i64 s] w fun e w' => e = .returned (.int .i64 (s + 3 * (izSum r.lists r.lists.length : Int))) ∧ Below w.heap.size w w' := by
  obtain ⟨a, c, rfl, K⟩ := H.out
  obtain ⟨hT, hS, -⟩ := Rw.small hB
  have C := fun w h => heldIzs s s0 s1 a c r.lists hT hS w h
  have h0 : ¬ s + 3 * (izSum r.lists r.lists.length : Int) < 0 := by omega
  have hlen : (r.mk' s).lists.length = r.lists.length := by simp [Rw.mk', izMks_length]
  unfold Rw.val
  rw [hlen]
  have Hx : IzAt w a (izMks s r.lists r.lists.length) := K
  have hf : (r.mk' s).most = r.most := rfl
  rw [hf]
  clear H K hlen hf
  generalize izMks s r.lists r.lists.length = l' at C Hx
  generalize hN : s + 3 * (izSum r.lists r.lists.length : Int) = N at C h0 ⊢
  generalize r.lists.length = n at C ⊢
  generalize r.most = f
  have C' : Hid _ := C
  have X : Hid (IzAt (w.alloc (.cells #[.int .i64 f, .slice a n c] 33)) a l' ∧ Below w.heap.size w (w.alloc (.cells #[.int .i64 f, .slice a n c] 33))) := ⟨Hx.alloc _, (Below.refl _ _).alloc (Nat.le_refl _) _⟩
  clear C Hx hT hS hB hN
  go_enter Try.func42, Try.ntmps42
  go_wp2_with fail
  refine (C'.out _ X.out.1).mono ?_
  rintro e w1 ⟨rfl, rfl⟩
  go_wp2
  go_ret
  exact ⟨rfl, X.out.2⟩
end Go.Proofs.Ytfkkmjejmflgjaa
