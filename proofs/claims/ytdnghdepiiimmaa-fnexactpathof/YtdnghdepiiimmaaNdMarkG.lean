/-
  Numbers put into lists of records (Node) that lie wherever. By the verifier, by program.
-/
import Derived.Test.YtdnghdepiiimmaaNdHeldF
import Derived.Test.YtdnghdepiiimmaaNdIn
namespace Go.Proofs.Ytdnghdepiiimmaa
open Go.RowKit

set_option maxHeartbeats 6400000 in
set_option maxRecDepth 100000 in
theorem markNdsG (s : Int) (s0 : 0 ≤ s) (s1 : s ≤ 1099511627776) (b t : Nat) (v : Value) (T : List Nd) (hT : T.length ≤ 1048576) (w : World) (H : Hid (NdIn b t w v T)) :
    Calls Try.prog 17 #[v, .int .i64 s] w fun e w' => e = .returned (.int .i64 (s + 5 * (T.length : Int))) ∧ NdIn b t w' v (ndMksF s T T.length) ∧ Turn (Hits v (T.length * 5)) w w' := by
  obtain ⟨a, cap, rfl⟩ := SlIn.shape H.out
  obtain ⟨len, hlen⟩ : ∃ n, T.length = n := ⟨_, rfl⟩
  have hcl := ndcells_length T
  have H : Hid (SlIn b t w (.slice a len cap) len (ndcells T)) := by
    have h := H.out
    unfold NdIn at h
    rw [hlen] at h
    exact h
  rw [hlen] at hT ⊢
  have Hlen : Hid (T.length = len) := hlen
  have Hcl : Hid (∀ j, j ≤ len → (ndcells (ndMksF s T j)).length = len * 5) := fun j hj => by rw [ndcells_length, ndMksF_length s T j (by rw [Hlen.out]; exact hj), Hlen.out]
  clear hlen hcl
  go_enter Try.func17, Try.ntmps17
  go_wp2
  go_loopw [1, 5] (fun kk i wr => ∃ (j : Nat) (kv : Int), j ≤ len ∧ i = .int .i64 j ∧ kk = .int .i64 kv ∧ kv = s + 5 * (j : Int) ∧ Hid (SlIn b t wr (.slice a len cap) len (ndcells (ndMksF s T j)) ∧ Turn (Hits (.slice a len cap) (len * 5)) w wr)) (fun _ i _ => len - (intOf i).toNat)
  case atStart => exact ⟨0, s, Nat.zero_le _, rfl, rfl, by simp, by rw [ndMksF_zero]; exact H.out, Turn.refl _ _⟩
  case round =>
    obtain ⟨j, kv, hj, rfl, rfl, hkv, H2⟩ := hrel
    have Hkv : Hid (kv = s + 5 * (j : Int)) := hkv
    have k0 : 0 ≤ kv := by omega
    have k1 : kv ≤ 1099516870656 := by omega
    by_cases hlt : j < len
    · have hcl := Hcl.out j hj
      obtain ⟨g, off, ha, h1, h2, h3⟩ := SlIn.some H2.out.1 (by intro e; rw [e] at hcl; simp at hcl; omega)
      subst ha
      have em : ndMkF s j = ⟨kv, kv + 1, kv + 1 + 1, kv + 1 + 1 + 1, kv + 1 + 1 + 1 + 1⟩ := by
        rw [hkv]
        unfold ndMkF
        simp only [Nd.mk.injEq, Pz.mk.injEq]
        refine ⟨by first | trivial | omega, by first | trivial | omega, by first | trivial | omega, by first | trivial | omega, by first | trivial | omega⟩
      have hput := H2.out.1
      have hput := SlIn.put hput (j * 5) (by omega) (.int .i64 (kv))
      have hput := SlIn.put hput (j * 5 + 1) (by simp only [List.length_set]; omega) (.int .i64 (kv + 1))
      have hput := SlIn.put hput (j * 5 + 2) (by simp only [List.length_set]; omega) (.int .i64 (kv + 1 + 1))
      have hput := SlIn.put hput (j * 5 + 3) (by simp only [List.length_set]; omega) (.int .i64 (kv + 1 + 1 + 1))
      have hput := SlIn.put hput (j * 5 + 4) (by simp only [List.length_set]; omega) (.int .i64 (kv + 1 + 1 + 1 + 1))
      have hset := ndcells_set (ndMksF s T j) j (ndMkF s j)
      rw [ndMksF_step s T j (by rw [Hlen.out]; exact hlt)] at hset
      simp only [em] at hset
      rw [hset] at hput
      have z0 := (SlIn.cells H2.out.1 (j * 5) (by omega)).2
      have y0 := (SlIn.cells H2.out.1 (j * 5) (by omega)).1
      have z1 := (SlIn.cells H2.out.1 (j * 5 + 1) (by omega)).2
      have y1 := (SlIn.cells H2.out.1 (j * 5 + 1) (by omega)).1
      have z2 := (SlIn.cells H2.out.1 (j * 5 + 2) (by omega)).2
      have y2 := (SlIn.cells H2.out.1 (j * 5 + 2) (by omega)).1
      have z3 := (SlIn.cells H2.out.1 (j * 5 + 3) (by omega)).2
      have y3 := (SlIn.cells H2.out.1 (j * 5 + 3) (by omega)).1
      have z4 := (SlIn.cells H2.out.1 (j * 5 + 4) (by omega)).2
      have y4 := (SlIn.cells H2.out.1 (j * 5 + 4) (by omega)).1
      simp only [← Nat.add_assoc] at hput z0 y0 z1 y1 z2 y2 z3 y3 z4 y4
      have H3 : Hid (SlIn b t (((((wr.setCell ⟨g, off + j * 5, none⟩ (.int .i64 (kv))).setCell ⟨g, off + j * 5 + 1, none⟩ (.int .i64 (kv + 1))).setCell ⟨g, off + j * 5 + 2, none⟩ (.int .i64 (kv + 1 + 1))).setCell ⟨g, off + j * 5 + 3, none⟩ (.int .i64 (kv + 1 + 1 + 1))).setCell ⟨g, off + j * 5 + 4, none⟩ (.int .i64 (kv + 1 + 1 + 1 + 1))) (.slice (some ⟨g, off, none⟩) len cap) len (ndcells (ndMksF s T (j + 1))) ∧ Turn (Hits (.slice (some ⟨g, off, none⟩) len cap) (len * 5)) w (((((wr.setCell ⟨g, off + j * 5, none⟩ (.int .i64 (kv))).setCell ⟨g, off + j * 5 + 1, none⟩ (.int .i64 (kv + 1))).setCell ⟨g, off + j * 5 + 2, none⟩ (.int .i64 (kv + 1 + 1))).setCell ⟨g, off + j * 5 + 3, none⟩ (.int .i64 (kv + 1 + 1 + 1))).setCell ⟨g, off + j * 5 + 4, none⟩ (.int .i64 (kv + 1 + 1 + 1 + 1)))) := by
        refine ⟨hput, H2.out.2.trans ?_⟩
        refine (Turn.trans (Turn.trans (Turn.trans (Turn.trans ((turn_set _ _ _ _).wide ?_) ((turn_set _ _ _ _).wide ?_)) ((turn_set _ _ _ _).wide ?_)) ((turn_set _ _ _ _).wide ?_)) ((turn_set _ _ _ _).wide ?_))
        all_goals (rintro k o ⟨rfl, rfl⟩; exact ⟨off, len, cap, rfl, by omega, by omega⟩)
      generalize (ndcells (ndMksF s T j))[j * 5]?.getD undef = u0 at y0; generalize (ndcells (ndMksF s T j))[j * 5 + 1]?.getD undef = u1 at y1; generalize (ndcells (ndMksF s T j))[j * 5 + 2]?.getD undef = u2 at y2; generalize (ndcells (ndMksF s T j))[j * 5 + 3]?.getD undef = u3 at y3; generalize (ndcells (ndMksF s T j))[j * 5 + 4]?.getD undef = u4 at y4
      clear hput hset hkv em hcl h1 h2 h3
      go_wp2
      go_roundw
      case rel => exact ⟨j + 1, kv + 5, by omega, by go_num, by go_num, by rw [Hkv.out]; push_cast; omega, H3⟩
      case measure => simp [intOf]; omega
    · obtain rfl : j = len := by omega
      go_wp2
      go_ret
      refine ⟨by rw [← Hkv.out]; rfl, ?_, H2.out.2⟩
      have h := H2.out.1
      unfold NdIn
      rw [ndMksF_length s T _ (by rw [Hlen.out]; omega), Hlen.out]
      exact h
end Go.Proofs.Ytdnghdepiiimmaa
