/-
  The walks of slices.Grow of nothing and slices.Concat of two lists of routes. By the verifier.
-/
import Derived.Test.YtilnjmpnhadidaaRtInsert
namespace Go.Proofs.Ytilnjmpnhadidaa
open Go.RowKit

set_option maxHeartbeats 800000 in
theorem implGrow0 (n : Nat) (hn : n ≤ 1048576) (w : World) :
    Calls Try.prog 74 #[.slice none 0 0, .int .i64 (n : Int)] w fun e w' => (∃ v, e = .returned v ∧ RRow w.heap.size w' v []) ∧ Below w.heap.size w w' := by
  have hn0 : ¬ ((n : Int) < 0) := by omega
  by_cases h0 : n = 0
  · subst h0
    go_enter Try.func74, Try.ntmps74
    go_wp2
    go_ret
    exact ⟨⟨_, rfl, World.ownsRow_nil _ _ _ _⟩, Below.refl _ _⟩
  · obtain ⟨i0, hi0, hz0, hz1, hz2⟩ := info_parts infoR
    obtain ⟨C, hC⟩ : ∃ C, grownCap w (0 + n) 0 53 = C := ⟨_, rfl⟩
    obtain ⟨W1, hW1⟩ : ∃ W, w.drew.alloc (.cells ((([] : List Value)).toArray ++ Builtin.zeroCells (Value.agg #[.int .i64 0, .int .i64 0, .int .i64 0]).cells n ++ Builtin.zeroCells (Value.agg #[.int .i64 0, .int .i64 0, .int .i64 0]).cells (C - (0 + n))) 53) = W := ⟨_, rfl⟩
    have hap : ∀ ty, (Builtin.append_ #[24, 3] ty #[.slice none 0 0, .int .i64 (n : Int)]).run Try.prog w = .ok (.slice (some ⟨w.heap.size, 0, none⟩) n C) W1 := fun ty => by
      have q := Lib.run_append_grow_zeros (P := Try.prog) w 24 3 ty 53 i0 _ .i64 .i64 Try.underlying24 Try.underlying3 hi0 hz0 none 0 0 [] (by rw [run_firstCells_none]) n (by omega) (by rw [hz1]; omega) (by omega) (by omega) (by rw [hz2]; omega) (by rw [hz2]; exact growslice_fits (by omega) (by omega))
      rw [q, hC, hW1, Nat.zero_add]
    have hC1 : n ≤ C := by rw [← hC]; have := grownCap_ge w (0 + n) 0 53; omega
    have hC2 : C ≤ maxLen := by rw [← hC]; exact grownCap_le_maxLen _ _ _ _ (by rw [maxLen]; omega)
    have HR : Hid (RRow w.heap.size W1 (.slice (some ⟨w.heap.size, 0, none⟩) 0 C) [] ∧ Below w.heap.size w W1) := by
      rw [← hW1]
      refine ⟨⟨rfl, .inr ⟨w.heap.size, C, _, rfl, Nat.le_refl _, (show _ = _ from Boxed.new w.drew _ _), Nat.zero_le _, hC2, ?_, by simp [rcells]⟩⟩, (Below.refl _ w).drew.alloc (Nat.le_refl _) _⟩
      have z1 := zero_cells n
      have z2 := zero_cells (C - (0 + n))
      rw [Array.length_toList] at z1 z2
      simp only [Array.size_append, z1, z2]
      simp
      omega
    have hnp : (0 : Int) < (n : Int) := by omega
    clear hW1 hC hC2 hi0 hz0 hz1 hz2
    go_enter Try.func74, Try.ntmps74
    go_wp2_with (at_builtin; refine list_append rfl (.tmp 20) (.tmp 21) rfl _ _ rfl rfl _ W1 (hap _) ?_)
    go_wp2
    go_ret
    exact ⟨⟨_, rfl, HR.out.1⟩, HR.out.2⟩

set_option maxHeartbeats 1600000 in
theorem implCat (S : Nat) (a b : Option Addr) (ca cb : Nat) (la lb : List Rt) (w : World) (hTa : la.length ≤ 64) (hTb : lb.length ≤ 64) (hna : a = none → ca = 0) (hnb : b = none → cb = 0) (hS : Hid (Boxed w S #[.slice a la.length ca, .slice b lb.length cb] 24)) (ha : Hid (RtsAt w a la)) (hb : Hid (RtsAt w b lb)) :
    Calls Try.prog 38 #[.slice (some ⟨S, 0, none⟩) 2 2] w fun e w' => (∃ v, e = .returned v ∧ RRow w.heap.size w' v (la ++ lb)) ∧ Below w.heap.size w w' := by
  obtain ⟨na, hla⟩ : ∃ n, la.length = n := ⟨_, rfl⟩
  obtain ⟨nb, hlb⟩ : ∃ n, lb.length = n := ⟨_, rfl⟩
  have Ha : Hid (la.length = na) := hla
  have Hb : Hid (lb.length = nb) := hlb
  rw [hla] at hTa hS
  rw [hlb] at hTb hS
  clear hla hlb
  have G := fun w => implGrow0 (na + nb) (by omega) w
  have G' : Hid _ := G
  clear G
  have c0 : w.cell? ⟨S, 0, none⟩ = some (.slice a na ca) := hS.out.cell 0 rfl
  have c1 : w.cell? ⟨S, 1, none⟩ = some (.slice b nb cb) := hS.out.cell 1 rfl
  go_enter Try.func38, Try.ntmps38
  go_wp2
  go_loopw [3, 11] (fun s i wr => ∃ k : Nat, k ≤ 2 ∧ i = .int .i64 k ∧ s = .int .i64 ((if k = 0 then 0 else if k = 1 then na else na + nb : Nat) : Int) ∧ wr = w) (fun _ i _ => 2 - (intOf i).toNat)
  case atStart => exact ⟨0, by omega, rfl, rfl, rfl⟩
  case round =>
    obtain ⟨k, hk, rfl, rfl, hw⟩ := hrel
    have hw' := hw.symm
    subst hw'
    clear hw
    match k, hk with
    | 0, _ =>
      simp only [if_true]
      go_wp2
      go_roundw
      case rel => exact ⟨1, by omega, rfl, by simp, trivial⟩
      case measure => simp [intOf]
    | 1, _ =>
      simp only [Nat.one_ne_zero, if_false, if_true]
      have h9 : ¬ ((na : Int) + (nb : Int) < 0) := by omega
      go_wp2
      go_roundw
      case rel => exact ⟨2, by omega, rfl, by simp, trivial⟩
      case measure => simp [intOf]
    | 2, _ =>
      simp only [show (2 : Nat) ≠ 0 by omega, show (2 : Nat) ≠ 1 by omega, if_false]
      go_wp2_with fail
      refine (G'.out _).mono ?_
      rintro e w1 ⟨⟨v1, rfl, r1⟩, b1⟩
      have H1 : Hid (RRow w.heap.size w1 v1 [] ∧ Below w.heap.size w w1) := ⟨r1, b1⟩
      clear r1 b1 G'
      go_wp2
      go_loopw [6, 27] (fun v i wx => ∃ k : Nat, k ≤ 2 ∧ i = .int .i64 k ∧ Hid (RRow w.heap.size wx v (if k = 0 then [] else if k = 1 then la else la ++ lb) ∧ Below w.heap.size w wx)) (fun _ i _ => 2 - (intOf i).toNat)
      case atStart => exact ⟨0, by omega, rfl, H1⟩
      case round =>
        obtain ⟨k, hk, rfl, H2⟩ := hrel
        match k, hk with
        | 0, _ =>
          have H3 := H2.out
          simp only [if_true] at H3
          have H4 : Hid _ := H3
          clear H3 H2
          have d0 : wr.cell? ⟨S, 0, none⟩ = some (.slice a na ca) := (hS.out.below hS.out.under H4.out.2).cell 0 rfl
          have d1 : wr.cell? ⟨S, 1, none⟩ = some (.slice b nb cb) := (hS.out.below hS.out.under H4.out.2).cell 1 rfl
          have hsz := H4.out.2.size
          have hla := Ha.out
          go_wp2_with (at_builtin; refine row_app rfl (.tmp 31) (.tmp 32) rfl w.heap.size _ [] _ _ _ la Ha.out rfl rfl H4.out.1 (ha.out.below H4.out.2) hna (by rw [Ha.out]; simp; omega) (by omega) ?_)
          intro v2 w2 r2 b2 _ _
          have H5 : Hid (RRow w.heap.size w2 v2 (if 1 = 0 then [] else if 1 = 1 then la else la ++ lb) ∧ Below w.heap.size w w2) := ⟨by simpa using r2, H4.out.2.trans b2⟩
          clear r2 b2 H4 d0 d1
          go_wp2
          go_roundw
          case rel => exact ⟨1, by omega, by go_num, H5⟩
          case measure => simp [intOf]
        | 1, _ =>
          have H3 := H2.out
          simp only [Nat.one_ne_zero, if_false, if_true] at H3
          have H4 : Hid _ := H3
          clear H3 H2
          have d0 : wr.cell? ⟨S, 0, none⟩ = some (.slice a na ca) := (hS.out.below hS.out.under H4.out.2).cell 0 rfl
          have d1 : wr.cell? ⟨S, 1, none⟩ = some (.slice b nb cb) := (hS.out.below hS.out.under H4.out.2).cell 1 rfl
          have hsz := H4.out.2.size
          have hla := Ha.out
          go_wp2_with (at_builtin; refine row_app rfl (.tmp 31) (.tmp 32) rfl w.heap.size _ la _ _ _ lb Hb.out rfl rfl H4.out.1 (hb.out.below H4.out.2) hnb (by rw [Hb.out, Ha.out]; omega) (by omega) ?_)
          intro v2 w2 r2 b2 _ _
          have H5 : Hid (RRow w.heap.size w2 v2 (if 2 = 0 then [] else if 2 = 1 then la else la ++ lb) ∧ Below w.heap.size w w2) := ⟨by simpa using r2, H4.out.2.trans b2⟩
          clear r2 b2 H4 d0 d1
          go_wp2
          go_roundw
          case rel => exact ⟨2, by omega, by go_num, H5⟩
          case measure => simp [intOf]
        | 2, _ =>
          have H3 := H2.out
          simp only [show (2 : Nat) ≠ 0 by omega, show (2 : Nat) ≠ 1 by omega, if_false] at H3
          have H4 : Hid _ := H3
          clear H3 H2
          go_wp2
          go_ret
          exact ⟨⟨_, rfl, H4.out.1⟩, H4.out.2⟩
        | n + 3, h => omega
    | n + 3, h => omega
end Go.Proofs.Ytilnjmpnhadidaa
