import Derived.RowKit3
import Derived.Below
import Derived.Test.YtgimalimfmoilaaDuPlain
import Derived.WalkKit
import Derived.Test.YtgimalimfmoilaaM0DzPlain
/-
  All blocks but a list's own are as they were. By the verifier.
-/
namespace Go.Proofs.Ytgimalimfmoilaa
open Go.RowKit

/-- All blocks but a list's own are as they were. -/
structure Oth (v : Value) (w w' : World) : Prop where
  size : w.heap.size ≤ w'.heap.size
  block : ∀ k, v.ownBlock ≠ some k → k < w.heap.size → w'.heap[k]? = w.heap[k]?
theorem Oth.refl (v : Value) (w : World) : Oth v w w := ⟨Nat.le_refl _, fun _ _ _ => rfl⟩
theorem Oth.trans {v : Value} {x y z : World} (h : Oth v x y) (g : Oth v y z) : Oth v x z := ⟨Nat.le_trans h.size g.size, fun k h1 h2 => (g.block k h1 (Nat.lt_of_lt_of_le h2 h.size)).trans (h.block k h1 h2)⟩
theorem Oth.set {g n c : Nat} {x y : World} {o : Nat} {u : Value} (h : Oth (.slice (some ⟨g, 0, none⟩) n c) x y) : Oth (.slice (some ⟨g, 0, none⟩) n c) x (y.setCell ⟨g, o, none⟩ u) :=
  h.trans ⟨by simp [World.setCell], fun k hk _ => Below.heap_setCell _ _ _ _ (by intro e; exact hk (by rw [e]; rfl))⟩
end Go.Proofs.Ytgimalimfmoilaa

/-
  What the laws do to see whose memory a list of records (Due) is: numbers put into it and looked for again. By the verifier, by program.
-/
namespace Go.Proofs.Ytgimalimfmoilaa
open Go.RowKit

def duMkF (s : Int) (i : Nat) : Du := ⟨s + 2 * (i : Int), s + 2 * (i : Int) + 1⟩
def duMksF (s : Int) (L : List Du) (j : Nat) : List Du := (List.range j).map (duMkF s) ++ L.drop j
theorem duMksF_length (s : Int) (L : List Du) (j : Nat) (h : j ≤ L.length) : (duMksF s L j).length = L.length := by simp [duMksF]; omega
theorem duMksF_zero (s : Int) (L : List Du) : duMksF s L 0 = L := by simp [duMksF]
theorem duMksF_step (s : Int) (L : List Du) (j : Nat) (h : j < L.length) : (duMksF s L j).set j (duMkF s j) = duMksF s L (j + 1) := by
  unfold duMksF
  rw [List.set_append_right _ _ (by simp), List.range_succ, List.map_append]
  simp
  rw [List.drop_eq_getElem_cons h]
  rfl
theorem duMksF_end (s : Int) (L : List Du) (j : Nat) (hj : j < L.length) : duAt (duMksF s L L.length) j = duMkF s j := by
  have : j < L.length := hj
  simp [duMksF, duAt, this]
set_option maxHeartbeats 6400000 in
set_option maxRecDepth 100000 in
theorem markDusF (s : Int) (s0 : 0 ≤ s) (s1 : s ≤ 1099511627776) (base : Nat) (a : Option Addr) (cap : Nat) (T : List Du) (hT : T.length ≤ 1048576) (w : World) (H : Hid (DuRow base w (.slice a T.length cap) T)) :
    Calls Try.prog 17 #[.slice a T.length cap, .int .i64 s] w fun e w' => e = .returned (.int .i64 (s + 2 * (T.length : Int))) ∧ DuRow base w' (.slice a T.length cap) (duMksF s T T.length) ∧ Below base w w' ∧ Oth (.slice a T.length cap) w w' := by
  obtain ⟨len, hlen⟩ : ∃ n, T.length = n := ⟨_, rfl⟩
  have H : Hid (w.ownsRow base 33 2 (.slice a len cap) len (ducells T)) := by
    have h := H.out
    unfold DuRow at h
    rw [hlen] at h
    exact h
  rw [hlen] at hT ⊢
  have Hlen : Hid (T.length = len) := hlen
  clear hlen
  go_enter Try.func17, Try.ntmps17
  go_wp2
  go_loopw [1, 5] (fun kk i wr => ∃ (j : Nat) (kv : Int), j ≤ len ∧ i = .int .i64 j ∧ kk = .int .i64 kv ∧ kv = s + 2 * (j : Int) ∧ Hid (wr.ownsRow base 33 2 (.slice a len cap) len (ducells (duMksF s T j)) ∧ Below base w wr ∧ Oth (.slice a len cap) w wr)) (fun _ i _ => len - (intOf i).toNat)
  case atStart => exact ⟨0, s, Nat.zero_le _, rfl, rfl, by simp, by rw [duMksF_zero]; exact H.out, Below.refl _ _, Oth.refl _ _⟩
  case round =>
    obtain ⟨j, kv, hj, rfl, rfl, hkv, H2⟩ := hrel
    have Hkv : Hid (kv = s + 2 * (j : Int)) := hkv
    have k0 : 0 ≤ kv := by omega
    have k1 : kv ≤ 1099513724928 := by omega
    by_cases hlt : j < len
    · obtain ⟨g, ha⟩ : ∃ g, a = some ⟨g, 0, none⟩ := by
        rcases H2.out.1.2 with ⟨e, _⟩ | ⟨g, cap', cur, e, _⟩
        · cases e; omega
        · cases e; exact ⟨g, rfl⟩
      subst ha
      have hput := DuRow.put (l := duMksF s T j) H2.out.1 j (duMkF s j)
      rw [duMksF_step s T j (by rw [Hlen.out]; exact hlt)] at hput
      have em : duMkF s j = ⟨kv, kv + 1⟩ := by
        rw [hkv]
        unfold duMkF
        rfl
      rw [em] at hput
      have hblk := (World.ownsRow.lt H2.out.1 g rfl).1
      have ex : ∀ q, q < len * 2 → ∃ v, wr.cell? ⟨g, q, none⟩ = some v := by
        intro q hq
        rw [H2.out.1.cellAt q hq]
        exact ⟨_, List.getElem?_eq_getElem (by rw [ducells_length, duMksF_length s T j (by rw [Hlen.out]; omega), Hlen.out]; exact hq)⟩
      obtain ⟨y0, hy0⟩ := ex (j * 2) (by omega)
      obtain ⟨y1, hy1⟩ := ex (j * 2 + 1) (by omega)
      have z0 := H2.out.1.frozenAt (j * 2)
      have z1 := H2.out.1.frozenAt (j * 2 + 1)
      have H3 : Hid (_ ∧ Below base w ((wr.setCell ⟨g, j * 2, none⟩ (.int .i64 (kv))).setCell ⟨g, j * 2 + 1, none⟩ (.int .i64 (kv + 1))) ∧ Oth (.slice (some ⟨g, 0, none⟩) len cap) w ((wr.setCell ⟨g, j * 2, none⟩ (.int .i64 (kv))).setCell ⟨g, j * 2 + 1, none⟩ (.int .i64 (kv + 1)))) := ⟨hput, (H2.out.2.1.setCell hblk _).setCell hblk _, H2.out.2.2.set.set⟩
      clear hput hblk ex hkv em
      go_wp2
      go_roundw
      case rel => exact ⟨j + 1, kv + 2, by omega, by go_num, by go_num, by rw [Hkv.out]; push_cast; omega, H3⟩
      case measure => simp [intOf]; omega
    · obtain rfl : j = len := by omega
      go_wp2
      go_ret
      refine ⟨by rw [← Hkv.out]; rfl, ?_, H2.out.2⟩
      have h := H2.out.1
      unfold DuRow
      rw [duMksF_length s T _ (by rw [Hlen.out]; omega), Hlen.out]
      exact h
end Go.Proofs.Ytgimalimfmoilaa

/-
  The numbers that were put into a list of records (Due), looked for again. By the verifier, by program.
-/
namespace Go.Proofs.Ytgimalimfmoilaa
open Go.RowKit

set_option maxHeartbeats 3200000 in
set_option maxRecDepth 100000 in
theorem heldDusF (s : Int) (s0 : 0 ≤ s) (s1 : s ≤ 1099511627776) (a : Option Addr) (cap : Nat) (T : List Du) (hT : T.length ≤ 1048576) (w : World) (H : Hid (DusAt w a (duMksF s T T.length))) :
    Calls Try.prog 18 #[.slice a T.length cap, .int .i64 s] w fun e w' => e = .returned (.int .i64 (s + 2 * (T.length : Int))) ∧ w' = w := by
  have Hc : Hid (∀ j, j < T.length → ∃ b off, a = some ⟨b, off, none⟩ ∧ ∀ kv : Int, kv = s + 2 * (j : Int) → w.cell? ⟨b, off + j * 2, none⟩ = some (.int .i64 (kv)) ∧ w.cell? ⟨b, off + j * 2 + 1, none⟩ = some (.int .i64 (kv + 1))) := by
    show ∀ j, j < T.length → _
    intro j hj
    obtain ⟨b, off, e, _, c0, c1⟩ := H.out j (by rw [duMksF_length s T _ (Nat.le_refl _)]; exact hj)
    rw [duMksF_end s T j hj] at c0 c1
    refine ⟨b, off, e, fun kv hkv => ?_⟩
    subst hkv
    exact ⟨c0, c1⟩
  generalize T.length = len at hT Hc ⊢
  clear H
  go_enter Try.func18, Try.ntmps18
  go_wp2
  go_loop [1, 5] (fun kk i => ∃ (j : Nat) (kv : Int), j ≤ len ∧ i = .int .i64 j ∧ kk = .int .i64 kv ∧ kv = s + 2 * (j : Int)) (fun _ i => len - (intOf i).toNat)
  case atStart => exact ⟨0, s, Nat.zero_le _, rfl, rfl, by simp⟩
  case round =>
    obtain ⟨j, kv, hj, rfl, rfl, hkv⟩ := hrel
    have Hkv : Hid (kv = s + 2 * (j : Int)) := hkv
    have k0 : 0 ≤ kv := by omega
    have k1 : kv ≤ 1099513724928 := by omega
    by_cases hlt : j < len
    · obtain ⟨b, off, ha, hc⟩ := Hc.out j hlt
      obtain ⟨c0, c1⟩ := hc kv hkv
      subst ha
      clear hkv hc
      go_wp2
      go_round
      case rel => exact ⟨j + 1, kv + 2, by omega, by go_num, by go_num, by rw [Hkv.out]; push_cast; omega⟩
      case measure => simp [intOf]; omega
    · obtain rfl : j = len := by omega
      clear hkv
      go_wp2
      go_ret
      exact ⟨by rw [← Hkv.out]; rfl, rfl⟩
end Go.Proofs.Ytgimalimfmoilaa

/-
  Numbers put into lists of records (Due) that lie wherever. By the verifier, by program.
-/
namespace Go.Proofs.Ytgimalimfmoilaa
open Go.RowKit

set_option maxHeartbeats 6400000 in
set_option maxRecDepth 100000 in
theorem markDusG (s : Int) (s0 : 0 ≤ s) (s1 : s ≤ 1099511627776) (b t : Nat) (v : Value) (T : List Du) (hT : T.length ≤ 1048576) (w : World) (H : Hid (DuIn b t w v T)) :
    Calls Try.prog 17 #[v, .int .i64 s] w fun e w' => e = .returned (.int .i64 (s + 2 * (T.length : Int))) ∧ DuIn b t w' v (duMksF s T T.length) ∧ Turn (Hits v (T.length * 2)) w w' := by
  obtain ⟨a, cap, rfl⟩ := SlIn.shape H.out
  obtain ⟨len, hlen⟩ : ∃ n, T.length = n := ⟨_, rfl⟩
  have hcl := ducells_length T
  have H : Hid (SlIn b t w (.slice a len cap) len (ducells T)) := by
    have h := H.out
    unfold DuIn at h
    rw [hlen] at h
    exact h
  rw [hlen] at hT ⊢
  have Hlen : Hid (T.length = len) := hlen
  have Hcl : Hid (∀ j, j ≤ len → (ducells (duMksF s T j)).length = len * 2) := fun j hj => by rw [ducells_length, duMksF_length s T j (by rw [Hlen.out]; exact hj), Hlen.out]
  clear hlen hcl
  go_enter Try.func17, Try.ntmps17
  go_wp2
  go_loopw [1, 5] (fun kk i wr => ∃ (j : Nat) (kv : Int), j ≤ len ∧ i = .int .i64 j ∧ kk = .int .i64 kv ∧ kv = s + 2 * (j : Int) ∧ Hid (SlIn b t wr (.slice a len cap) len (ducells (duMksF s T j)) ∧ Turn (Hits (.slice a len cap) (len * 2)) w wr)) (fun _ i _ => len - (intOf i).toNat)
  case atStart => exact ⟨0, s, Nat.zero_le _, rfl, rfl, by simp, by rw [duMksF_zero]; exact H.out, Turn.refl _ _⟩
  case round =>
    obtain ⟨j, kv, hj, rfl, rfl, hkv, H2⟩ := hrel
    have Hkv : Hid (kv = s + 2 * (j : Int)) := hkv
    have k0 : 0 ≤ kv := by omega
    have k1 : kv ≤ 1099513724928 := by omega
    by_cases hlt : j < len
    · have hcl := Hcl.out j hj
      obtain ⟨g, off, ha, h1, h2, h3⟩ := SlIn.some H2.out.1 (by intro e; rw [e] at hcl; simp at hcl; omega)
      subst ha
      have em : duMkF s j = ⟨kv, kv + 1⟩ := by
        rw [hkv]
        unfold duMkF
        rfl
      have hput := H2.out.1
      have hput := SlIn.put hput (j * 2) (by omega) (.int .i64 (kv))
      have hput := SlIn.put hput (j * 2 + 1) (by simp only [List.length_set]; omega) (.int .i64 (kv + 1))
      have hset := ducells_set (duMksF s T j) j (duMkF s j)
      rw [duMksF_step s T j (by rw [Hlen.out]; exact hlt)] at hset
      simp only [em] at hset
      rw [hset] at hput
      have z0 := (SlIn.cells H2.out.1 (j * 2) (by omega)).2
      have y0 := (SlIn.cells H2.out.1 (j * 2) (by omega)).1
      have z1 := (SlIn.cells H2.out.1 (j * 2 + 1) (by omega)).2
      have y1 := (SlIn.cells H2.out.1 (j * 2 + 1) (by omega)).1
      simp only [← Nat.add_assoc] at hput z0 y0 z1 y1
      have H3 : Hid (SlIn b t ((wr.setCell ⟨g, off + j * 2, none⟩ (.int .i64 (kv))).setCell ⟨g, off + j * 2 + 1, none⟩ (.int .i64 (kv + 1))) (.slice (some ⟨g, off, none⟩) len cap) len (ducells (duMksF s T (j + 1))) ∧ Turn (Hits (.slice (some ⟨g, off, none⟩) len cap) (len * 2)) w ((wr.setCell ⟨g, off + j * 2, none⟩ (.int .i64 (kv))).setCell ⟨g, off + j * 2 + 1, none⟩ (.int .i64 (kv + 1)))) := by
        refine ⟨hput, H2.out.2.trans ?_⟩
        refine (Turn.trans ((turn_set _ _ _ _).wide ?_) ((turn_set _ _ _ _).wide ?_))
        all_goals (rintro k o ⟨rfl, rfl⟩; exact ⟨off, len, cap, rfl, by omega, by omega⟩)
      generalize (ducells (duMksF s T j))[j * 2]?.getD undef = u0 at y0; generalize (ducells (duMksF s T j))[j * 2 + 1]?.getD undef = u1 at y1
      clear hput hset hkv em hcl h1 h2 h3
      go_wp2
      go_roundw
      case rel => exact ⟨j + 1, kv + 2, by omega, by go_num, by go_num, by rw [Hkv.out]; push_cast; omega, H3⟩
      case measure => simp [intOf]; omega
    · obtain rfl : j = len := by omega
      go_wp2
      go_ret
      refine ⟨by rw [← Hkv.out]; rfl, ?_, H2.out.2⟩
      have h := H2.out.1
      unfold DuIn
      rw [duMksF_length s T _ (by rw [Hlen.out]; omega), Hlen.out]
      exact h
end Go.Proofs.Ytgimalimfmoilaa
