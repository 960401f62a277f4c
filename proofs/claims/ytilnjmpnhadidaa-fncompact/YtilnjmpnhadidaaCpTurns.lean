/-
  Where another route may begin to say: the addresses, plainly and walked. By the verifier.
-/
import Derived.Test.YtilnjmpnhadidaaCpHop
import Derived.Test.YtilnjmpnhadidaaCpLeaf
import Derived.Test.YtilnjmpnhadidaaIntRow
import Derived.Test.YtilnjmpnhadidaaQuiet
import Derived.BigQuiet
namespace Go.Proofs.Ytilnjmpnhadidaa
open Go.RowKit

/-- Where a net begins, and what lies behind it. -/
def endV (r : Rt) : Int := r.net + 2 ^ (32 - r.bits).toNat
def turnF (r : Rt) : List Int := r.net :: (if endV r ≤ 4294967295 then [endV r] else [])
def turnsL (l : List Rt) : List Int := l.flatMap turnF
theorem turns_take {l : List Rt} {k : Nat} (hk : k < l.length) : turnsL (l.take (k + 1)) = turnsL (l.take k) ++ turnF (rtAt l k) := by
  unfold turnsL
  rw [List.take_succ_eq_append_getElem hk, List.flatMap_append, rtAt_lt hk]
  simp
theorem turns_le (l : List Rt) : (turnsL l).length ≤ 2 * l.length := by
  unfold turnsL
  induction l with
  | nil => simp
  | cons r l ih =>
    rw [List.flatMap_cons, List.length_append, List.length_cons]
    have : (turnF r).length ≤ 2 := by unfold turnF; split <;> simp
    omega
theorem turn_in {r : Rt} (hr : r.ok = true) : ∀ x ∈ turnF r, 0 ≤ x ∧ x ≤ 4294967295 := by
  obtain ⟨_, p2, _, _⟩ := ok_split hr
  have p0 := pow_pos' (32 - r.bits).toNat
  intro x hx
  unfold turnF at hx
  rcases List.mem_cons.1 hx with rfl | hx
  · exact p2
  · split at hx
    · rename_i he
      rw [List.mem_singleton] at hx
      subst hx
      unfold endV at he ⊢
      omega
    · simp at hx
/-- A net holds an address just where it lies from its net on, ahead of what is behind. -/
theorem fit_range {r : Rt} (hr : r.ok = true) (x : Int) : fitP r x ↔ r.net ≤ x ∧ x < endV r := by
  obtain ⟨_, _, p3, _⟩ := ok_split hr
  have p0 := pow_pos' (32 - r.bits).toNat
  unfold fitP fitB endV
  rw [decide_eq_true_iff]
  generalize (2 : Int) ^ (32 - r.bits).toNat = P at p0 p3
  have h1 := Int.mul_ediv_add_emod x P
  have h2 := Int.emod_nonneg x (show P ≠ 0 by omega)
  have h3 := Int.emod_lt_of_pos x p0
  constructor
  · intro e
    rw [Int.mul_comm] at h1
    omega
  · rintro ⟨a1, a2⟩
    have e : r.net = r.net / P * P := by
      have := Int.mul_ediv_add_emod r.net P
      rw [p3, Int.mul_comm] at this
      omega
    have hq : x / P = r.net / P := by
      have g1 : r.net / P ≤ x / P := Int.ediv_le_ediv p0 a1
      have g2 : x / P < r.net / P + 1 := by
        rw [Int.ediv_lt_iff_lt_mul p0, Int.add_mul, Int.one_mul, ← e]
        exact a2
      omega
    rw [hq]
    exact e.symm

set_option maxHeartbeats 1600000 in
theorem implTurns (a : Option Addr) (cap : Nat) (l : List Rt) (w : World) (hT : l.length ≤ 128) (hok : Hid (∀ r ∈ l, r.ok = true)) (h : Hid (RtsAt w a l)) :
    Calls Try.prog 37 #[.slice a l.length cap] w fun e w' => (∃ v', e = .returned v' ∧ IRow w.heap.size w' v' (turnsL l)) ∧ Below w.heap.size w w' := by
  obtain ⟨len, hlen⟩ : ∃ n, l.length = n := ⟨_, rfl⟩
  have Hlen : Hid (l.length = len) := hlen
  rw [hlen] at hT ⊢
  clear hlen
  go_enter Try.func37, Try.ntmps37
  go_wp2
  go_loopw [3, 10] (fun v i wr => ∃ k : Nat, k ≤ len ∧ i = .int .i64 k ∧ Hid (IRow w.heap.size wr v (turnsL (l.take k)) ∧ Below w.heap.size w wr)) (fun _ i _ => len - (intOf i).toNat)
  case atStart => exact ⟨0, Nat.zero_le _, rfl, irow_built _ _ (Nat.le_refl _), (Below.refl _ _).alloc (Nat.le_refl _) _⟩
  case round =>
    obtain ⟨k, hk, rfl, H1⟩ := hrel
    by_cases hkl : k < len
    · have R : RtsAt wr a l := h.out.below H1.out.2
      obtain ⟨b1, o1, ha1, hb1, -⟩ := R k (by rw [Hlen.out]; exact hkl)
      subst ha1
      obtain ⟨c0, c1, c2⟩ := cells_at R (k := k) (by rw [Hlen.out]; exact hkl)
      have Ht : Hid _ := turns_take (l := l) (k := k) (by rw [Hlen.out]; exact hkl)
      have hrk : (rtAt l k).ok = true := hok.out _ (by rw [rtAt_lt (by rw [Hlen.out]; exact hkl)]; exact List.getElem_mem _)
      have hle : (turnsL (l.take k)).length ≤ 256 := by
        have := turns_le (l.take k)
        rw [List.length_take] at this
        omega
      obtain ⟨p1, p2, _, _⟩ := ok_split hrk
      clear hrk R
      generalize rtAt l k = r at c0 c1 c2 Ht p1 p2
      have hkl' : (k : Int) < (len : Int) := by omega
      have LB := fun w => implLast (b := r.bits) (s := (32 - r.bits).toNat) (by omega) (by omega) w
      have p0 := pow_pos' (32 - r.bits).toNat
      have p9 := pow_le32 (s := (32 - r.bits).toNat) (by omega)
      have Ht2 : Hid (turnsL (l.take (k + 1)) = turnsL (l.take k) ++ [r.net] ++ (if r.net + 2 ^ (32 - r.bits).toNat ≤ 4294967295 then [r.net + 2 ^ (32 - r.bits).toNat] else [])) := by
        show turnsL (l.take (k + 1)) = _
        rw [Ht.out]
        unfold turnF endV
        simp
      clear Ht
      generalize (2 : Int) ^ (32 - r.bits).toNat = P at LB p0 p9 Ht2
      obtain ⟨net, bits, hop⟩ := r
      simp only [] at c0 c1 c2 LB p1 p2 Ht2
      have hbs := H1.out.2.size
      have HX : Hid (Boxed (wr.alloc (.cells #[.int .i64 net, .int .i64 bits, .int .i64 hop] 53)) wr.heap.size #[.int .i64 net, .int .i64 bits, .int .i64 hop] 53) := Boxed.new _ _ _
      go_wp2_with (at_builtin; refine row_iapp rfl (.tmp 14) (.tmp 17) rfl w.heap.size _ (turnsL (l.take k)) _ _ 1 1 [net] rfl rfl rfl ((H1.out.1.alloc _).alloc _) (by intro q hq; obtain rfl : q = 0 := (by omega); simp) (by simp; omega) (by simp; omega) ?_)
      intro v2 w2 r2 b2 g2 _
      have hne : some wr.heap.size ≠ u3.ownBlock := fun hg => by have := (H1.out.1.lt _ hg.symm).2; omega
      have X2 : Boxed w2 wr.heap.size #[.int .i64 net, .int .i64 bits, .int .i64 hop] 53 := by
        unfold Boxed
        rw [g2.block _ (by simp; omega) hne]
        exact HX.out.more _
      have H2 : Hid (IRow w.heap.size w2 v2 (turnsL (l.take k) ++ [net]) ∧ Below w.heap.size w w2 ∧ Boxed w2 wr.heap.size #[.int .i64 net, .int .i64 bits, .int .i64 hop] 53) :=
        ⟨r2, ((H1.out.2.alloc hbs _).alloc (by simp; omega) _).trans b2, X2⟩
      clear r2 b2 g2 hne X2 H1 HX c0 c1 c2
      go_wp2_with fail
      obtain ⟨B, hB⟩ : ∃ B, wr.heap.size = B := ⟨_, rfl⟩
      rw [hB] at H2
      simp only [hB]
      clear hB
      have f0 : ∀ p : BelW w2.heap.size w2, p.w'.cell? ⟨B, 0, none⟩ = some (.int .i64 net) := fun p => (H2.out.2.2.below H2.out.2.2.under p.h).cell 0 rfl
      have f1 : ∀ p : BelW w2.heap.size w2, p.w'.cell? ⟨B, 1, none⟩ = some (.int .i64 bits) := fun p => (H2.out.2.2.below H2.out.2.2.under p.h).cell 1 rfl
      have LC := fun w => (LB w).mono fun e w' (hh : e = Ending.returned (Value.int IntKind.i64 P) ∧ w' = w) => (show e = Ending.returned (Value.int IntKind.i64 P) ∧ Below w.heap.size w w' from ⟨hh.1, by rw [hh.2]; exact Below.refl _ _⟩)
      haveI : Nonempty (BelW w2.heap.size w2) := ⟨⟨w2, Below.refl _ _⟩⟩
      refine region_below w2.heap.size (by kernel_rfl) (by kernel_rfl) ?_
      repeat (go_big_quiet_step ((go_at_call 73; refine quiet_below (Nat.le_refl _) (LC _))))
      refine wpQuiet_nil ?_
      intro wq hx
      have HQ : Hid (IRow w.heap.size wq v2 (turnsL (l.take k) ++ [net]) ∧ Below w.heap.size w wq) := ⟨H2.out.1.below (fun q hq => (H2.out.1.lt q hq).2) (BelW.out hx), H2.out.2.1.trans ((BelW.out hx).mono H2.out.2.1.size)⟩
      clear hx f0 f1 H2 LB LC
      have hw : IntKind.i64.wrap (net + P) = net + P := by rw [IntKind.wrap_i64]; omega
      by_cases he : net + P ≤ 4294967295
      · have Ht3 : Hid (turnsL (l.take (k + 1)) = turnsL (l.take k) ++ [net] ++ [net + P]) := by
          have := Ht2.out
          rw [if_pos he] at this
          exact this
        clear Ht2
        have hq1 := HQ.out.2.size
        go_wp2_with (at_builtin; refine row_iapp rfl (.tmp 27) (.tmp 29) rfl w.heap.size _ (turnsL (l.take k) ++ [net]) _ _ 1 1 [net + P] rfl rfl rfl (HQ.out.1.alloc _) (by intro q hq; obtain rfl : q = 0 := (by omega); simp) (by simp; omega) (by simp; omega) ?_)
        intro v3 w3 r3 b3 _ _
        have H3 : Hid (IRow w.heap.size w3 v3 (turnsL (l.take (k + 1))) ∧ Below w.heap.size w w3) := ⟨by rw [Ht3.out]; simpa using r3, (HQ.out.2.alloc hq1 _).trans b3⟩
        clear r3 b3 HQ Ht3
        go_wp2
        go_roundw
        case rel => exact ⟨k + 1, by omega, by go_num, H3⟩
        case measure => simp [intOf]; omega
      · have Ht3 : Hid (turnsL (l.take (k + 1)) = turnsL (l.take k) ++ [net]) := by
          have := Ht2.out
          rw [if_neg he, List.append_nil] at this
          exact this
        clear Ht2
        have H3 : Hid (IRow w.heap.size wq v2 (turnsL (l.take (k + 1))) ∧ Below w.heap.size w wq) := ⟨by rw [Ht3.out]; exact HQ.out.1, HQ.out.2⟩
        clear HQ Ht3
        go_wp2
        go_roundw
        case rel => exact ⟨k + 1, by omega, by go_num, H3⟩
        case measure => simp [intOf]; omega
    · obtain rfl : k = len := by omega
      go_wp2
      go_ret
      refine ⟨⟨_, rfl, ?_⟩, H1.out.2⟩
      have := H1.out.1
      rw [List.take_of_length_le (by rw [Hlen.out]; exact Nat.le_refl _)] at this
      exact this
end Go.Proofs.Ytilnjmpnhadidaa
