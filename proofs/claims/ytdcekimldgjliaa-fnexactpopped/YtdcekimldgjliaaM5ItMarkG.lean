import Derived.Test.YtdcekimldgjliaaM4ItMarkF
import Derived.Test.YtdcekimldgjliaaM0IzPlain
/-
  The numbers that were put into a list of records (Item), looked for again. By the verifier, by program.
-/
namespace Go.Proofs.Ytdcekimldgjliaa
open Go.RowKit

set_option maxHeartbeats 3200000 in
set_option maxRecDepth 100000 in
theorem heldItsF (s : Int) (s0 : 0 ≤ s) (s1 : s ≤ 1099511627776) (a : Option Addr) (cap : Nat) (T : List It) (hT : T.length ≤ 1048576) (w : World) (H : Hid (ItsAt w a (itMksF s T T.length))) :
    Calls Try.prog 61 #[.slice a T.length cap, .int .i64 s] w fun e w' => e = .returned (.int .i64 (s + 3 * (T.length : Int))) ∧ w' = w := by
  have Hc : Hid (∀ j, j < T.length → ∃ b off, a = some ⟨b, off, none⟩ ∧ ∀ kv : Int, kv = s + 3 * (j : Int) → w.cell? ⟨b, off + j * 3, none⟩ = some (.int .i64 (kv)) ∧ w.cell? ⟨b, off + j * 3 + 1, none⟩ = some (.int .i64 (kv + 1)) ∧ w.cell? ⟨b, off + j * 3 + 2, none⟩ = some (.int .i64 (kv + 2))) := by
    show ∀ j, j < T.length → _
    intro j hj
    obtain ⟨b, off, e, _, c0, c1, c2⟩ := H.out j (by rw [itMksF_length s T _ (Nat.le_refl _)]; exact hj)
    rw [itMksF_end s T j hj] at c0 c1 c2
    refine ⟨b, off, e, fun kv hkv => ?_⟩
    subst hkv
    exact ⟨c0, c1, c2⟩
  generalize T.length = len at hT Hc ⊢
  clear H
  go_enter Try.func61, Try.ntmps61
  go_wp2
  go_loop [1, 5] (fun kk i => ∃ (j : Nat) (kv : Int), j ≤ len ∧ i = .int .i64 j ∧ kk = .int .i64 kv ∧ kv = s + 3 * (j : Int)) (fun _ i => len - (intOf i).toNat)
  case atStart => exact ⟨0, s, Nat.zero_le _, rfl, rfl, by simp⟩
  case round =>
    obtain ⟨j, kv, hj, rfl, rfl, hkv⟩ := hrel
    have Hkv : Hid (kv = s + 3 * (j : Int)) := hkv
    have k0 : 0 ≤ kv := by omega
    have k1 : kv ≤ 1099514773504 := by omega
    by_cases hlt : j < len
    · obtain ⟨b, off, ha, hc⟩ := Hc.out j hlt
      obtain ⟨c0, c1, c2⟩ := hc kv hkv
      subst ha
      clear hkv hc
      go_wp2
      go_round
      case rel => exact ⟨j + 1, kv + 3, by omega, by go_num, by go_num, by rw [Hkv.out]; push_cast; omega⟩
      case measure => simp [intOf]; omega
    · obtain rfl : j = len := by omega
      clear hkv
      go_wp2
      go_ret
      exact ⟨by rw [← Hkv.out]; rfl, rfl⟩
end Go.Proofs.Ytdcekimldgjliaa

/-
  Numbers put into lists of records (Item) that lie wherever. By the verifier, by program.
-/
namespace Go.Proofs.Ytdcekimldgjliaa
open Go.RowKit

set_option maxHeartbeats 6400000 in
set_option maxRecDepth 100000 in
theorem markItsG (s : Int) (s0 : 0 ≤ s) (s1 : s ≤ 1099511627776) (b t : Nat) (v : Value) (T : List It) (hT : T.length ≤ 1048576) (w : World) (H : Hid (ItIn b t w v T)) :
    Calls Try.prog 60 #[v, .int .i64 s] w fun e w' => e = .returned (.int .i64 (s + 3 * (T.length : Int))) ∧ ItIn b t w' v (itMksF s T T.length) ∧ Turn (Hits v (T.length * 3)) w w' := by
  obtain ⟨a, cap, rfl⟩ := SlIn.shape H.out
  obtain ⟨len, hlen⟩ : ∃ n, T.length = n := ⟨_, rfl⟩
  have hcl := itcells_length T
  have H : Hid (SlIn b t w (.slice a len cap) len (itcells T)) := by
    have h := H.out
    unfold ItIn at h
    rw [hlen] at h
    exact h
  rw [hlen] at hT ⊢
  have Hlen : Hid (T.length = len) := hlen
  have Hcl : Hid (∀ j, j ≤ len → (itcells (itMksF s T j)).length = len * 3) := fun j hj => by rw [itcells_length, itMksF_length s T j (by rw [Hlen.out]; exact hj), Hlen.out]
  clear hlen hcl
  go_enter Try.func60, Try.ntmps60
  go_wp2
  go_loopw [1, 5] (fun kk i wr => ∃ (j : Nat) (kv : Int), j ≤ len ∧ i = .int .i64 j ∧ kk = .int .i64 kv ∧ kv = s + 3 * (j : Int) ∧ Hid (SlIn b t wr (.slice a len cap) len (itcells (itMksF s T j)) ∧ Turn (Hits (.slice a len cap) (len * 3)) w wr)) (fun _ i _ => len - (intOf i).toNat)
  case atStart => exact ⟨0, s, Nat.zero_le _, rfl, rfl, by simp, by rw [itMksF_zero]; exact H.out, Turn.refl _ _⟩
  case round =>
    obtain ⟨j, kv, hj, rfl, rfl, hkv, H2⟩ := hrel
    have Hkv : Hid (kv = s + 3 * (j : Int)) := hkv
    have k0 : 0 ≤ kv := by omega
    have k1 : kv ≤ 1099514773504 := by omega
    by_cases hlt : j < len
    · have hcl := Hcl.out j hj
      obtain ⟨g, off, ha, h1, h2, h3⟩ := SlIn.some H2.out.1 (by intro e; rw [e] at hcl; simp at hcl; omega)
      subst ha
      have em : itMkF s j = ⟨kv, kv + 1, kv + 1 + 1⟩ := by
        rw [hkv]
        unfold itMkF
        simp only [It.mk.injEq]
        refine ⟨by first | trivial | omega, by first | trivial | omega, by first | trivial | omega⟩
      have hput := H2.out.1
      have hput := SlIn.put hput (j * 3) (by omega) (.int .i64 (kv))
      have hput := SlIn.put hput (j * 3 + 1) (by simp only [List.length_set]; omega) (.int .i64 (kv + 1))
      have hput := SlIn.put hput (j * 3 + 2) (by simp only [List.length_set]; omega) (.int .i64 (kv + 1 + 1))
      have hset := itcells_set (itMksF s T j) j (itMkF s j)
      rw [itMksF_step s T j (by rw [Hlen.out]; exact hlt)] at hset
      simp only [em] at hset
      rw [hset] at hput
      have z0 := (SlIn.cells H2.out.1 (j * 3) (by omega)).2
      have y0 := (SlIn.cells H2.out.1 (j * 3) (by omega)).1
      have z1 := (SlIn.cells H2.out.1 (j * 3 + 1) (by omega)).2
      have y1 := (SlIn.cells H2.out.1 (j * 3 + 1) (by omega)).1
      have z2 := (SlIn.cells H2.out.1 (j * 3 + 2) (by omega)).2
      have y2 := (SlIn.cells H2.out.1 (j * 3 + 2) (by omega)).1
      simp only [← Nat.add_assoc] at hput z0 y0 z1 y1 z2 y2
      have H3 : Hid (SlIn b t (((wr.setCell ⟨g, off + j * 3, none⟩ (.int .i64 (kv))).setCell ⟨g, off + j * 3 + 1, none⟩ (.int .i64 (kv + 1))).setCell ⟨g, off + j * 3 + 2, none⟩ (.int .i64 (kv + 1 + 1))) (.slice (some ⟨g, off, none⟩) len cap) len (itcells (itMksF s T (j + 1))) ∧ Turn (Hits (.slice (some ⟨g, off, none⟩) len cap) (len * 3)) w (((wr.setCell ⟨g, off + j * 3, none⟩ (.int .i64 (kv))).setCell ⟨g, off + j * 3 + 1, none⟩ (.int .i64 (kv + 1))).setCell ⟨g, off + j * 3 + 2, none⟩ (.int .i64 (kv + 1 + 1)))) := by
        refine ⟨hput, H2.out.2.trans ?_⟩
        refine (Turn.trans (Turn.trans ((turn_set _ _ _ _).wide ?_) ((turn_set _ _ _ _).wide ?_)) ((turn_set _ _ _ _).wide ?_))
        all_goals (rintro k o ⟨rfl, rfl⟩; exact ⟨off, len, cap, rfl, by omega, by omega⟩)
      generalize (itcells (itMksF s T j))[j * 3]?.getD undef = u0 at y0; generalize (itcells (itMksF s T j))[j * 3 + 1]?.getD undef = u1 at y1; generalize (itcells (itMksF s T j))[j * 3 + 2]?.getD undef = u2 at y2
      clear hput hset hkv em hcl h1 h2 h3
      go_wp2
      go_roundw
      case rel => exact ⟨j + 1, kv + 3, by omega, by go_num, by go_num, by rw [Hkv.out]; push_cast; omega, H3⟩
      case measure => simp [intOf]; omega
    · obtain rfl : j = len := by omega
      go_wp2
      go_ret
      refine ⟨by rw [← Hkv.out]; rfl, ?_, H2.out.2⟩
      have h := H2.out.1
      unfold ItIn
      rw [itMksF_length s T _ (by rw [Hlen.out]; omega), Hlen.out]
      exact h
end Go.Proofs.Ytdcekimldgjliaa
