/-
  The walks of the model's Trimmed. By the verifier.
-/
import Derived.Test.YtilnjmpnhadidaaCpHop
import Derived.Test.YtilnjmpnhadidaaRtL4Hop
import Derived.Test.YtilnjmpnhadidaaRtApp
import Derived.Test.YtilnjmpnhadidaaRtOkS
import Derived.Test.YtilnjmpnhadidaaM1
namespace Go.Proofs.Ytilnjmpnhadidaa
open Go.RowKit

/-- What the inner search holds behind k. -/
def inK (l : List Rt) (r : Rt) (k : Nat) : Int × Int := ((l.take k).filter fun x => decide (x.bits < r.bits)).foldl (hopStep r.net) (-1, -1)
theorem inK_succ {l : List Rt} {r : Rt} {k : Nat} (hk : k < l.length) : inK l r (k + 1) = if (rtAt l k).bits < r.bits then hopStep r.net (inK l r k) (rtAt l k) else inK l r k := by
  unfold inK
  rw [List.take_succ_eq_append_getElem hk, List.filter_append, List.foldl_append, rtAt_lt hk]
  by_cases h : l[k].bits < r.bits <;> simp [h]
/-- Those that are left of the first k. -/
def trimK (l : List Rt) (k : Nat) : List Rt := (l.take k).filter fun r => !decide (aboveV l r = r.hop)
theorem trimK_succ {l : List Rt} {k : Nat} (hk : k < l.length) : trimK l (k + 1) = if aboveV l (rtAt l k) = (rtAt l k).hop then trimK l k else trimK l k ++ [rtAt l k] := by
  unfold trimK
  rw [List.take_succ_eq_append_getElem hk, List.filter_append, rtAt_lt hk]
  by_cases h : aboveV l l[k] = l[k].hop <;> simp [h]
theorem trimK_le (l : List Rt) (k : Nat) : (trimK l k).length ≤ k := by
  unfold trimK
  have h1 := List.length_filter_le (fun r => !decide (aboveV l r = r.hop)) (l.take k)
  have h2 : (l.take k).length ≤ k := by rw [List.length_take]; omega
  omega
theorem inK_all {l : List Rt} {r : Rt} {k : Nat} (hk : l.length ≤ k) : (inK l r k).2 = aboveV l r := by
  unfold inK aboveV hopL
  rw [List.take_of_length_le hk]

set_option maxHeartbeats 3200000 in
theorem specTrimL (a : Option Addr) (cap : Nat) (l : List Rt) (w : World) (hT : l.length ≤ 64) (hf : Hid (Fine l)) (h : Hid (RtsAt w a l)) :
    Calls Try.prog 41 #[.slice a l.length cap] w fun e w' => (∃ v', e = .returned v' ∧ RRow w.heap.size w' v' (trimL l) ∧ v' ≠ .slice none 0 0) ∧ Below w.heap.size w w' := by
  obtain ⟨len, hlen⟩ : ∃ n, l.length = n := ⟨_, rfl⟩
  have Hlen : Hid (l.length = len) := hlen
  rw [hlen] at hT ⊢
  clear hlen
  have HE : Hid (trimK l len = trimL l) := by
    show trimK l len = trimL l
    unfold trimK trimL
    rw [List.take_of_length_le (by rw [Hlen.out]; exact Nat.le_refl _)]
  go_enter Try.func41, Try.ntmps41
  go_wp2
  go_loopw [3, 4] (fun v i wr => ∃ k : Nat, k ≤ len ∧ i = .int .i64 k ∧ Hid (RRow w.heap.size wr v (trimK l k) ∧ v ≠ .slice none 0 0 ∧ Below w.heap.size w wr)) (fun _ i _ => len - (intOf i).toNat)
  case atStart => exact ⟨0, Nat.zero_le _, rfl, row_built _ _ (Nat.le_refl _), (fun e => by cases e), (Below.refl _ _).alloc (Nat.le_refl _) _⟩
  case round =>
    obtain ⟨k, hk, rfl, H1⟩ := hrel
    by_cases hkl : k < len
    · have R : RtsAt wr a l := h.out.below H1.out.2.2
      obtain ⟨b1, o1, ha1, hb1, -⟩ := R k (by rw [Hlen.out]; exact hkl)
      subst ha1
      obtain ⟨c0, c1, c2⟩ := cells_at R (k := k) (by rw [Hlen.out]; exact hkl)
      have hrk : (rtAt l k).ok = true := hf.out.ok _ (by rw [rtAt_lt (by rw [Hlen.out]; exact hkl)]; exact List.getElem_mem _)
      have Hs : Hid _ := trimK_succ (l := l) (k := k) (by rw [Hlen.out]; exact hkl)
      have pk := (ok_split hrk).2.1
      clear R hrk
      generalize rtAt l k = r at c0 c1 c2 Hs pk
      have hkl' : (k : Int) < (len : Int) := by omega
      obtain ⟨B, hB⟩ : ∃ B, B = wr.heap.size := ⟨_, rfl⟩
      obtain ⟨W1, hW1⟩ : ∃ W1, wr.alloc (.cells #[.int .i64 r.net, .int .i64 r.bits, .int .i64 r.hop] 53) = W1 := ⟨_, rfl⟩
      have X1 : Hid (Boxed W1 B #[.int .i64 r.net, .int .i64 r.bits, .int .i64 r.hop] 53 ∧ RtsAt W1 (some ⟨b1, o1, none⟩) l ∧ RRow w.heap.size W1 u3 (trimK l k) ∧ Below w.heap.size w W1 ∧ u3 ≠ .slice none 0 0) := by
        rw [← hW1, hB]
        exact ⟨Boxed.new _ _ _, (h.out.below H1.out.2.2).alloc _, H1.out.1.alloc _, H1.out.2.2.alloc H1.out.2.2.size _, H1.out.2.1⟩
      clear H1
      go_wp2
      rw [← hB]
      clear hB hW1
      clear c0 c1 c2
      go_loopw [6, 7, 8] (fun bt hp i wr => ∃ (j : Nat) (s : Int × Int), j ≤ len ∧ i = .int .i64 j ∧ bt = .int .i64 s.1 ∧ hp = .int .i64 s.2 ∧ Hid (inK l r j = s ∧ Below W1.heap.size W1 wr)) (fun _ _ i _ => len - (intOf i).toNat)
      case atStart => exact ⟨0, (-1, -1), Nat.zero_le _, rfl, rfl, rfl, rfl, Below.refl _ _⟩
      case round =>
        obtain ⟨j, ⟨s1, s2⟩, hj, rfl, rfl, rfl, H2⟩ := hrel
        have x0 : wr.cell? ⟨B, 0, none⟩ = some (.int .i64 r.net) := (X1.out.1.below X1.out.1.under H2.out.2).cell 0 rfl
        have x1 : wr.cell? ⟨B, 1, none⟩ = some (.int .i64 r.bits) := (X1.out.1.below X1.out.1.under H2.out.2).cell 1 rfl
        have x2 : wr.cell? ⟨B, 2, none⟩ = some (.int .i64 r.hop) := (X1.out.1.below X1.out.1.under H2.out.2).cell 2 rfl
        by_cases hjl : j < len
        · obtain ⟨d0, d1, d2⟩ := cells_at (X1.out.2.1.below H2.out.2) (k := j) (by rw [Hlen.out]; exact hjl)
          have Ht : Hid _ := inK_succ (l := l) (r := r) (k := j) (by rw [Hlen.out]; exact hjl)
          have hxk : (rtAt l j).ok = true := hf.out.ok _ (by rw [rtAt_lt (by rw [Hlen.out]; exact hjl)]; exact List.getElem_mem _)
          have C := fun w => specFit (net := (rtAt l j).net) (inB_true.2 (ok_split hxk).1) pk.1 pk.2 w
          clear hxk
          generalize rtAt l j = x at d0 d1 d2 Ht C
          have hBlt : B < wr.heap.size := Nat.lt_of_lt_of_le X1.out.1.under H2.out.2.size
          have hne : B ≠ wr.heap.size := by omega
          have B3 : Hid (Below W1.heap.size W1 (wr.alloc (.cells #[.int .i64 x.net, .int .i64 x.bits, .int .i64 x.hop] 53))) := H2.out.2.alloc H2.out.2.size _
          have hjl' : (j : Int) < (len : Int) := by omega
          by_cases q1 : x.bits < r.bits
          · by_cases q2 : s1 < x.bits
            · cases q3 : fitB x.net x.bits r.net
              · rw [q3] at C
                have Hn : Hid (inK l r (j + 1) = (s1, s2)) := by
                  show inK l r (j + 1) = _
                  rw [Ht.out, if_pos q1, H2.out.1]
                  unfold hopStep
                  rw [if_neg (by simp [q3])]
                clear Ht H2 q3
                go_wp2_with (go_at_call 77; refine (C _).mono ?_; rintro e w' ⟨rfl, rfl⟩)
                go_roundw
                case rel => exact ⟨j + 1, (s1, s2), by omega, by go_num, rfl, rfl, Hn.out, B3.out⟩
                case measure => simp [intOf]; omega
              · rw [q3] at C
                have Hn : Hid (inK l r (j + 1) = (x.bits, x.hop)) := by
                  show inK l r (j + 1) = _
                  rw [Ht.out, if_pos q1, H2.out.1]
                  unfold hopStep
                  rw [if_pos ⟨q2, q3⟩]
                clear Ht H2 q3
                go_wp2_with (go_at_call 77; refine (C _).mono ?_; rintro e w' ⟨rfl, rfl⟩)
                go_roundw
                case rel => exact ⟨j + 1, (x.bits, x.hop), by omega, by go_num, rfl, rfl, Hn.out, B3.out⟩
                case measure => simp [intOf]; omega
            · have Hn : Hid (inK l r (j + 1) = (s1, s2)) := by
                show inK l r (j + 1) = _
                rw [Ht.out, if_pos q1, H2.out.1]
                unfold hopStep
                rw [if_neg (fun h => q2 h.1)]
              clear Ht H2 C
              go_wp2
              go_roundw
              case rel => exact ⟨j + 1, (s1, s2), by omega, by go_num, rfl, rfl, Hn.out, B3.out⟩
              case measure => simp [intOf]; omega
          · have Hn : Hid (inK l r (j + 1) = (s1, s2)) := by
              show inK l r (j + 1) = _
              rw [Ht.out, if_neg q1, H2.out.1]
            clear Ht H2 C
            go_wp2
            go_roundw
            case rel => exact ⟨j + 1, (s1, s2), by omega, by go_num, rfl, rfl, Hn.out, B3.out⟩
            case measure => simp [intOf]; omega
        · obtain rfl : j = len := by omega
          have hab : aboveV l r = s2 := by
            have := inK_all (l := l) (r := r) (k := j) (by rw [Hlen.out]; exact Nat.le_refl _)
            rw [H2.out.1] at this
            exact this.symm
          have hs := Hs.out
          rw [hab] at hs
          have X3 : Hid (RRow w.heap.size wr u3 (trimK l k) ∧ Below w.heap.size w wr ∧ u3 ≠ .slice none 0 0) := ⟨X1.out.2.2.1.below (fun q hq => (X1.out.2.2.1.lt q hq).2) H2.out.2, X1.out.2.2.2.1.trans (H2.out.2.mono X1.out.2.2.2.1.size), X1.out.2.2.2.2⟩
          by_cases q : s2 = r.hop
          · rw [if_pos q] at hs
            have Hn : Hid (RRow w.heap.size wr u3 (trimK l (k + 1)) ∧ u3 ≠ .slice none 0 0 ∧ Below w.heap.size w wr) := ⟨by rw [hs]; exact X3.out.1, X3.out.2.2, X3.out.2.1⟩
            clear hs hab H2 X3 Hs
            go_wp2
            go_roundw
            case rel => exact ⟨k + 1, by omega, by go_num, Hn⟩
            case measure => simp [intOf]; omega
          · rw [if_neg q] at hs
            have Hs2 : Hid (trimK l (k + 1) = trimK l k ++ [r]) := hs
            have hle := trimK_le l k
            clear hs hab H2 Hs
            go_wp2_with (at_builtin; refine row_app rfl (.tmp 59) (.tmp 61) rfl w.heap.size _ (trimK l k) _ 1 1 [r] rfl rfl rfl (X3.out.1.alloc _) (by intro q hq; obtain rfl : q = 0 := (by simpa using hq); exact ⟨_, 0, rfl, by simp, by simp [rtAt], by simp [rtAt], by simp [rtAt]⟩) (by simp) (by simp; omega) (by have := X3.out.2.1.size; simp; omega) ?_)
            intro v2 w2 r2 b2 _ n2
            have Hn : Hid (RRow w.heap.size w2 v2 (trimK l (k + 1)) ∧ v2 ≠ .slice none 0 0 ∧ Below w.heap.size w w2) := ⟨by rw [Hs2.out]; exact r2, fun e => X3.out.2.2 (n2 e), (X3.out.2.1.alloc X3.out.2.1.size _).trans b2⟩
            clear r2 b2 n2 X3
            go_wp2
            go_roundw
            case rel => exact ⟨k + 1, by omega, by go_num, Hn⟩
            case measure => simp [intOf]; omega
    · obtain rfl : k = len := by omega
      go_wp2
      go_ret
      refine ⟨⟨_, rfl, ?_, H1.out.2.1⟩, H1.out.2.2⟩
      rw [← HE.out]
      exact H1.out.1
end Go.Proofs.Ytilnjmpnhadidaa
