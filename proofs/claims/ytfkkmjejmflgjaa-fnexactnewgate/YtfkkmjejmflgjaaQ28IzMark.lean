import Derived.RowKit3
import Derived.Below
import Derived.Test.YtfkkmjejmflgjaaQ1NdPlain
import Derived.WalkKit
import Derived.Test.YtfkkmjejmflgjaaQ5FwPlain
import Derived.Test.YtfkkmjejmflgjaaQ6RwFn
/-
  All blocks but a list's own are as they were. By the verifier.
-/
namespace Go.Proofs.Ytfkkmjejmflgjaa
open Go.RowKit

/-- All blocks but a list's own are as they were. -/
structure Oth (v : Value) (w w' : World) : Prop where
  size : w.heap.size ≤ w'.heap.size
  block : ∀ k, v.ownBlock ≠ some k → k < w.heap.size → w'.heap[k]? = w.heap[k]?
theorem Oth.refl (v : Value) (w : World) : Oth v w w := ⟨Nat.le_refl _, fun _ _ _ => rfl⟩
theorem Oth.trans {v : Value} {x y z : World} (h : Oth v x y) (g : Oth v y z) : Oth v x z := ⟨Nat.le_trans h.size g.size, fun k h1 h2 => (g.block k h1 (Nat.lt_of_lt_of_le h2 h.size)).trans (h.block k h1 h2)⟩
theorem Oth.set {g n c : Nat} {x y : World} {o : Nat} {u : Value} (h : Oth (.slice (some ⟨g, 0, none⟩) n c) x y) : Oth (.slice (some ⟨g, 0, none⟩) n c) x (y.setCell ⟨g, o, none⟩ u) :=
  h.trans ⟨by simp [World.setCell], fun k hk _ => Below.heap_setCell _ _ _ _ (by intro e; exact hk (by rw [e]; rfl))⟩
end Go.Proofs.Ytfkkmjejmflgjaa

/-
  What the laws do to see whose memory a list of records (Node) is: numbers put into it and looked for again. By the verifier, by program.
-/
namespace Go.Proofs.Ytfkkmjejmflgjaa
open Go.RowKit

def ndMkF (s : Int) (i : Nat) : Nd := ⟨s + 5 * (i : Int), s + 5 * (i : Int) + 1, s + 5 * (i : Int) + 2, s + 5 * (i : Int) + 3, s + 5 * (i : Int) + 4⟩
def ndMksF (s : Int) (L : List Nd) (j : Nat) : List Nd := (List.range j).map (ndMkF s) ++ L.drop j
theorem ndMksF_length (s : Int) (L : List Nd) (j : Nat) (h : j ≤ L.length) : (ndMksF s L j).length = L.length := by simp [ndMksF]; omega
theorem ndMksF_zero (s : Int) (L : List Nd) : ndMksF s L 0 = L := by simp [ndMksF]
theorem ndMksF_step (s : Int) (L : List Nd) (j : Nat) (h : j < L.length) : (ndMksF s L j).set j (ndMkF s j) = ndMksF s L (j + 1) := by
  unfold ndMksF
  rw [List.set_append_right _ _ (by simp), List.range_succ, List.map_append]
  simp
  rw [List.drop_eq_getElem_cons h]
  rfl
theorem ndMksF_end (s : Int) (L : List Nd) (j : Nat) (hj : j < L.length) : ndAt (ndMksF s L L.length) j = ndMkF s j := by
  have : j < L.length := hj
  simp [ndMksF, ndAt, this]
end Go.Proofs.Ytfkkmjejmflgjaa

/-
  The numbers that were put into a list of records (Node), looked for again. By the verifier, by program.
-/
namespace Go.Proofs.Ytfkkmjejmflgjaa
open Go.RowKit

set_option maxHeartbeats 3200000 in
set_option maxRecDepth 100000 in
theorem heldNdsF (s : Int) (s0 : 0 ≤ s) (s1 : s ≤ 1099511627776) (a : Option Addr) (cap : Nat) (T : List Nd) (hT : T.length ≤ 1048576) (w : World) (H : Hid (NdsAt w a (ndMksF s T T.length))) :
    Calls Try.prog 40 #[.slice a T.length cap, .int .i64 s] w fun e w' => e = .returned (.int .i64 (s + 5 * (T.length : Int))) ∧ w' = w := by
  have Hc : Hid (∀ j, j < T.length → ∃ b off, a = some ⟨b, off, none⟩ ∧ ∀ kv : Int, kv = s + 5 * (j : Int) → w.cell? ⟨b, off + j * 5, none⟩ = some (.int .i64 (kv)) ∧ w.cell? ⟨b, off + j * 5 + 1, none⟩ = some (.int .i64 (kv + 1)) ∧ w.cell? ⟨b, off + j * 5 + 2, none⟩ = some (.int .i64 (kv + 2)) ∧ w.cell? ⟨b, off + j * 5 + 3, none⟩ = some (.int .i64 (kv + 3)) ∧ w.cell? ⟨b, off + j * 5 + 4, none⟩ = some (.int .i64 (kv + 4))) := by
    show ∀ j, j < T.length → _
    intro j hj
    obtain ⟨b, off, e, _, c0, c1, c2, c3, c4⟩ := H.out j (by rw [ndMksF_length s T _ (Nat.le_refl _)]; exact hj)
    rw [ndMksF_end s T j hj] at c0 c1 c2 c3 c4
    refine ⟨b, off, e, fun kv hkv => ?_⟩
    subst hkv
    exact ⟨c0, c1, c2, c3, c4⟩
  generalize T.length = len at hT Hc ⊢
  clear H
  go_enter Try.func40, Try.ntmps40
  go_wp2
  go_loop [1, 5] (fun kk i => ∃ (j : Nat) (kv : Int), j ≤ len ∧ i = .int .i64 j ∧ kk = .int .i64 kv ∧ kv = s + 5 * (j : Int)) (fun _ i => len - (intOf i).toNat)
  case atStart => exact ⟨0, s, Nat.zero_le _, rfl, rfl, by simp⟩
  case round =>
    obtain ⟨j, kv, hj, rfl, rfl, hkv⟩ := hrel
    have Hkv : Hid (kv = s + 5 * (j : Int)) := hkv
    have k0 : 0 ≤ kv := by omega
    have k1 : kv ≤ 1099516870656 := by omega
    by_cases hlt : j < len
    · obtain ⟨b, off, ha, hc⟩ := Hc.out j hlt
      obtain ⟨c0, c1, c2, c3, c4⟩ := hc kv hkv
      subst ha
      clear hkv hc
      go_wp2
      go_round
      case rel => exact ⟨j + 1, kv + 5, by omega, by go_num, by go_num, by rw [Hkv.out]; push_cast; omega⟩
      case measure => simp [intOf]; omega
    · obtain rfl : j = len := by omega
      clear hkv
      go_wp2
      go_ret
      exact ⟨by rw [← Hkv.out]; rfl, rfl⟩
end Go.Proofs.Ytfkkmjejmflgjaa

/-
  What the laws do to see whose memory a list of numbers is: numbers put into it and looked for again. By the verifier.
-/
namespace Go.Proofs.Ytfkkmjejmflgjaa
open Go.RowKit

/-- The first j marked, the others as they were. -/
def mks (k : Int) (T : List Int) (j : Nat) : List Int := (List.range j).map (fun (i : Nat) => k + (i : Int)) ++ T.drop j
theorem mks_length (k : Int) (T : List Int) (j : Nat) (h : j ≤ T.length) : (mks k T j).length = T.length := by simp [mks]; omega
theorem mks_zero (k : Int) (T : List Int) : mks k T 0 = T := by simp [mks]
theorem mks_step (k : Int) (T : List Int) (j : Nat) (h : j < T.length) : (mks k T j).set j (k + (j : Int)) = mks k T (j + 1) := by
  unfold mks
  rw [List.set_append_right _ _ (by simp), List.range_succ, List.map_append]
  simp
  rw [List.drop_eq_getElem_cons h]
  rfl
theorem mks_end (k : Int) (T : List Int) (j : Nat) (hj : j < T.length) : (mks k T T.length)[j]?.getD 0 = k + (j : Int) := by
  have : j < T.length := hj
  simp [mks, this]

end Go.Proofs.Ytfkkmjejmflgjaa

/-
  What the laws do to see whose memory a list of records (Item) is: numbers put into it and looked for again. By the verifier, by program.
-/
namespace Go.Proofs.Ytfkkmjejmflgjaa
open Go.RowKit

def itMkF (s : Int) (i : Nat) : It := ⟨s + 3 * (i : Int), s + 3 * (i : Int) + 1, s + 3 * (i : Int) + 2⟩
def itMksF (s : Int) (L : List It) (j : Nat) : List It := (List.range j).map (itMkF s) ++ L.drop j
theorem itMksF_length (s : Int) (L : List It) (j : Nat) (h : j ≤ L.length) : (itMksF s L j).length = L.length := by simp [itMksF]; omega
theorem itMksF_zero (s : Int) (L : List It) : itMksF s L 0 = L := by simp [itMksF]
theorem itMksF_step (s : Int) (L : List It) (j : Nat) (h : j < L.length) : (itMksF s L j).set j (itMkF s j) = itMksF s L (j + 1) := by
  unfold itMksF
  rw [List.set_append_right _ _ (by simp), List.range_succ, List.map_append]
  simp
  rw [List.drop_eq_getElem_cons h]
  rfl
theorem itMksF_end (s : Int) (L : List It) (j : Nat) (hj : j < L.length) : itAt (itMksF s L L.length) j = itMkF s j := by
  have : j < L.length := hj
  simp [itMksF, itAt, this]
end Go.Proofs.Ytfkkmjejmflgjaa

/-
  The numbers that were put into a list of records (Item), looked for again. By the verifier, by program.
-/
namespace Go.Proofs.Ytfkkmjejmflgjaa
open Go.RowKit

set_option maxHeartbeats 3200000 in
set_option maxRecDepth 100000 in
theorem heldItsF (s : Int) (s0 : 0 ≤ s) (s1 : s ≤ 1099511627776) (a : Option Addr) (cap : Nat) (T : List It) (hT : T.length ≤ 1048576) (w : World) (H : Hid (ItsAt w a (itMksF s T T.length))) :
    Calls Try.prog 84 #[.slice a T.length cap, .int .i64 s] w fun e w' => e = .returned (.int .i64 (s + 3 * (T.length : Int))) ∧ w' = w := by
  have Hc : Hid (∀ j, j < T.length → ∃ b off, a = some ⟨b, off, none⟩ ∧ ∀ kv : Int, kv = s + 3 * (j : Int) → w.cell? ⟨b, off + j * 3, none⟩ = some (.int .i64 (kv)) ∧ w.cell? ⟨b, off + j * 3 + 1, none⟩ = some (.int .i64 (kv + 1)) ∧ w.cell? ⟨b, off + j * 3 + 2, none⟩ = some (.int .i64 (kv + 2))) := by
    show ∀ j, j < T.length → _
    intro j hj
    obtain ⟨b, off, e, _, c0, c1, c2⟩ := H.out j (by rw [itMksF_length s T _ (Nat.le_refl _)]; exact hj)
    rw [itMksF_end s T j hj] at c0 c1 c2
    refine ⟨b, off, e, fun kv hkv => ?_⟩
    subst hkv
    exact ⟨c0, c1, c2⟩
  generalize T.length = len at hT Hc ⊢
  clear H
  go_enter Try.func84, Try.ntmps84
  go_wp2
  go_loop [1, 5] (fun kk i => ∃ (j : Nat) (kv : Int), j ≤ len ∧ i = .int .i64 j ∧ kk = .int .i64 kv ∧ kv = s + 3 * (j : Int)) (fun _ i => len - (intOf i).toNat)
  case atStart => exact ⟨0, s, Nat.zero_le _, rfl, rfl, by simp⟩
  case round =>
    obtain ⟨j, kv, hj, rfl, rfl, hkv⟩ := hrel
    have Hkv : Hid (kv = s + 3 * (j : Int)) := hkv
    have k0 : 0 ≤ kv := by omega
    have k1 : kv ≤ 1099514773504 := by omega
    by_cases hlt : j < len
    · obtain ⟨b, off, ha, hc⟩ := Hc.out j hlt
      obtain ⟨c0, c1, c2⟩ := hc kv hkv
      subst ha
      clear hkv hc
      go_wp2
      go_round
      case rel => exact ⟨j + 1, kv + 3, by omega, by go_num, by go_num, by rw [Hkv.out]; push_cast; omega⟩
      case measure => simp [intOf]; omega
    · obtain rfl : j = len := by omega
      clear hkv
      go_wp2
      go_ret
      exact ⟨by rw [← Hkv.out]; rfl, rfl⟩
end Go.Proofs.Ytfkkmjejmflgjaa

/-
  Numbers put into lists of records (Item) that lie wherever. By the verifier, by program.
-/
namespace Go.Proofs.Ytfkkmjejmflgjaa
open Go.RowKit

set_option maxHeartbeats 6400000 in
set_option maxRecDepth 100000 in
theorem markItsG (s : Int) (s0 : 0 ≤ s) (s1 : s ≤ 1099511627776) (b t : Nat) (v : Value) (T : List It) (hT : T.length ≤ 1048576) (w : World) (H : Hid (ItIn b t w v T)) :
    Calls Try.prog 83 #[v, .int .i64 s] w fun e w' => e = .returned (.int .i64 (s + 3 * (T.length : Int))) ∧ ItIn b t w' v (itMksF s T T.length) ∧ Turn (Hits v (T.length * 3)) w w' := by
  obtain ⟨a, cap, rfl⟩ := SlIn.shape H.out
  obtain ⟨len, hlen⟩ : ∃ n, T.length = n := ⟨_, rfl⟩
  have hcl := itcells_length T
  have H : Hid (SlIn b t w (.slice a len cap) len (itcells T)) := by
    have h := H.out
    unfold ItIn at h
    rw [hlen] at h
    exact h
  rw [hlen] at hT ⊢
  have Hlen : Hid (T.length = len) := hlen
  have Hcl : Hid (∀ j, j ≤ len → (itcells (itMksF s T j)).length = len * 3) := fun j hj => by rw [itcells_length, itMksF_length s T j (by rw [Hlen.out]; exact hj), Hlen.out]
  clear hlen hcl
  go_enter Try.func83, Try.ntmps83
  go_wp2
  go_loopw [1, 5] (fun kk i wr => ∃ (j : Nat) (kv : Int), j ≤ len ∧ i = .int .i64 j ∧ kk = .int .i64 kv ∧ kv = s + 3 * (j : Int) ∧ Hid (SlIn b t wr (.slice a len cap) len (itcells (itMksF s T j)) ∧ Turn (Hits (.slice a len cap) (len * 3)) w wr)) (fun _ i _ => len - (intOf i).toNat)
  case atStart => exact ⟨0, s, Nat.zero_le _, rfl, rfl, by simp, by rw [itMksF_zero]; exact H.out, Turn.refl _ _⟩
  case round =>
    obtain ⟨j, kv, hj, rfl, rfl, hkv, H2⟩ := hrel
    have Hkv : Hid (kv = s + 3 * (j : Int)) := hkv
    have k0 : 0 ≤ kv := by omega
    have k1 : kv ≤ 1099514773504 := by omega
    by_cases hlt : j < len
    · have hcl := Hcl.out j hj
      obtain ⟨g, off, ha, h1, h2, h3⟩ := SlIn.some H2.out.1 (by intro e; rw [e] at hcl; simp at hcl; omega)
      subst ha
      have em : itMkF s j = ⟨kv, kv + 1, kv + 1 + 1⟩ := by
        rw [hkv]
        unfold itMkF
        simp only [It.mk.injEq]
        refine ⟨by first | trivial | omega, by first | trivial | omega, by first | trivial | omega⟩
      have hput := H2.out.1
      have hput := SlIn.put hput (j * 3) (by omega) (.int .i64 (kv))
      have hput := SlIn.put hput (j * 3 + 1) (by simp only [List.length_set]; omega) (.int .i64 (kv + 1))
      have hput := SlIn.put hput (j * 3 + 2) (by simp only [List.length_set]; omega) (.int .i64 (kv + 1 + 1))
      have hset := itcells_set (itMksF s T j) j (itMkF s j)
      rw [itMksF_step s T j (by rw [Hlen.out]; exact hlt)] at hset
      simp only [em] at hset
      rw [hset] at hput
      have z0 := (SlIn.cells H2.out.1 (j * 3) (by omega)).2
      have y0 := (SlIn.cells H2.out.1 (j * 3) (by omega)).1
      have z1 := (SlIn.cells H2.out.1 (j * 3 + 1) (by omega)).2
      have y1 := (SlIn.cells H2.out.1 (j * 3 + 1) (by omega)).1
      have z2 := (SlIn.cells H2.out.1 (j * 3 + 2) (by omega)).2
      have y2 := (SlIn.cells H2.out.1 (j * 3 + 2) (by omega)).1
      simp only [← Nat.add_assoc] at hput z0 y0 z1 y1 z2 y2
      have H3 : Hid (SlIn b t (((wr.setCell ⟨g, off + j * 3, none⟩ (.int .i64 (kv))).setCell ⟨g, off + j * 3 + 1, none⟩ (.int .i64 (kv + 1))).setCell ⟨g, off + j * 3 + 2, none⟩ (.int .i64 (kv + 1 + 1))) (.slice (some ⟨g, off, none⟩) len cap) len (itcells (itMksF s T (j + 1))) ∧ Turn (Hits (.slice (some ⟨g, off, none⟩) len cap) (len * 3)) w (((wr.setCell ⟨g, off + j * 3, none⟩ (.int .i64 (kv))).setCell ⟨g, off + j * 3 + 1, none⟩ (.int .i64 (kv + 1))).setCell ⟨g, off + j * 3 + 2, none⟩ (.int .i64 (kv + 1 + 1)))) := by
        refine ⟨hput, H2.out.2.trans ?_⟩
        refine (Turn.trans (Turn.trans ((turn_set _ _ _ _).wide ?_) ((turn_set _ _ _ _).wide ?_)) ((turn_set _ _ _ _).wide ?_))
        all_goals (rintro k o ⟨rfl, rfl⟩; exact ⟨off, len, cap, rfl, by omega, by omega⟩)
      generalize (itcells (itMksF s T j))[j * 3]?.getD undef = u0 at y0; generalize (itcells (itMksF s T j))[j * 3 + 1]?.getD undef = u1 at y1; generalize (itcells (itMksF s T j))[j * 3 + 2]?.getD undef = u2 at y2
      clear hput hset hkv em hcl h1 h2 h3
      go_wp2
      go_roundw
      case rel => exact ⟨j + 1, kv + 3, by omega, by go_num, by go_num, by rw [Hkv.out]; push_cast; omega, H3⟩
      case measure => simp [intOf]; omega
    · obtain rfl : j = len := by omega
      go_wp2
      go_ret
      refine ⟨by rw [← Hkv.out]; rfl, ?_, H2.out.2⟩
      have h := H2.out.1
      unfold ItIn
      rw [itMksF_length s T _ (by rw [Hlen.out]; omega), Hlen.out]
      exact h
end Go.Proofs.Ytfkkmjejmflgjaa

/-
  What the laws do to see whose memory lists of lists of records (Item) are: numbers put into them and looked for again. By the verifier, by program.
-/
namespace Go.Proofs.Ytfkkmjejmflgjaa
open Go.RowKit

/-- The list at a place with its numbers, which begin at s in the first one. -/
def izMk (s : Int) (ls : List (List It)) (i : Nat) : List It := itMksF (s + 3 * (izSum ls i : Int)) (izAt ls i) (izAt ls i).length
/-- The first j of them with their numbers. -/
def izMks (s : Int) (ls : List (List It)) (j : Nat) : List (List It) := (List.range ls.length).map fun i => if i < j then izMk s ls i else izAt ls i
theorem izMks_length (s : Int) (ls : List (List It)) (j : Nat) : (izMks s ls j).length = ls.length := by simp [izMks]
theorem izMks_at (s : Int) (ls : List (List It)) (j : Nat) {i : Nat} (hi : i < ls.length) : izAt (izMks s ls j) i = if i < j then izMk s ls i else izAt ls i := by
  simp [izAt, izMks, hi]
theorem izMk_length (s : Int) (ls : List (List It)) (i : Nat) : (izMk s ls i).length = (izAt ls i).length := itMksF_length _ _ _ (Nat.le_refl _)
theorem izMks_len (s : Int) (ls : List (List It)) (j : Nat) {i : Nat} (hi : i < ls.length) : (izAt (izMks s ls j) i).length = (izAt ls i).length := by
  rw [izMks_at s ls j hi]
  split
  · exact izMk_length s ls i
  · rfl
theorem izMks_zero (s : Int) (ls : List (List It)) : izMks s ls 0 = ls := by
  apply List.ext_getElem
  · simp [izMks]
  · intro i h1 h2
    simp [izMks, izAt, List.getElem?_eq_getElem h2]
/-- Some cell of one of the lists. -/
def izHits (vs : List Value) (ls : List (List It)) (k o : Nat) : Prop := ∃ i, i < ls.length ∧ Hits (izV vs i) ((izAt ls i).length * 3) k o
theorem IzV.step {s : Int} {b t : Nat} {w w' : World} {v : Value} {vs : List Value} {ls : List (List It)} {j : Nat} (h : IzV b t w v vs (izMks s ls j)) (hj : j < ls.length) (hr : ItIn b t w' (izV vs j) (izMk s ls j)) (ht : Turn (Hits (izV vs j) ((izAt ls j).length * 3)) w w') :
    IzV b t w' v vs (izMks s ls (j + 1)) := by
  have hl := izMks_length s ls j
  have e : ∀ i, i < ls.length → (izAt (izMks s ls (j + 1)) i).length = (izAt (izMks s ls j) i).length := fun i hi => by rw [izMks_len s ls _ hi, izMks_len s ls _ hi]
  refine ⟨?_, by rw [h.len, hl, izMks_length], fun i hi => ?_, fun i hi => ?_, fun i k x o hi hk hne => ?_, fun i x o hi => ?_⟩
  · have h1 := h.outer
    rw [hl] at h1
    rw [izMks_length]
    refine h1.turn ht fun k o hh hx => ?_
    rw [← izMks_len s ls j hj] at hx
    refine h.free j k o (by rw [hl]; exact hj) hx ?_
    rw [hl, ← hl, ← h.len]
    exact hh
  · rw [izMks_length] at hi
    by_cases hij : i = j
    · subst hij
      rw [izMks_at s ls _ hi, if_pos (by omega)]
      exact hr
    · have h1 := h.row i (by rw [hl]; exact hi)
      have e2 : izAt (izMks s ls (j + 1)) i = izAt (izMks s ls j) i := by
        rw [izMks_at s ls _ hi, izMks_at s ls _ hi]
        by_cases hlt : i < j
        · rw [if_pos (by omega), if_pos hlt]
        · rw [if_neg (by omega), if_neg hlt]
      rw [e2]
      refine SlIn.turn h1 ht fun k o hh hx => ?_
      rw [itcells_length] at hh
      rw [← izMks_len s ls j hj] at hx
      exact h.apart i j k o (by rw [hl]; exact hi) (by rw [hl]; exact hj) hij hh hx
  · rw [izMks_length] at hi
    rw [e i hi]
    exact h.cap i (by rw [hl]; exact hi)
  · rw [izMks_length] at hi hk
    rw [e i hi, e k hk]
    exact h.apart i k x o (by rw [hl]; exact hi) (by rw [hl]; exact hk) hne
  · rw [izMks_length] at hi ⊢
    rw [e i hi]
    have := h.free i x o (by rw [hl]; exact hi)
    rw [hl] at this
    exact this

set_option maxHeartbeats 3200000 in
set_option maxRecDepth 100000 in
theorem markIzs (s : Int) (s0 : 0 ≤ s) (s1 : s ≤ 549755813888) (b t : Nat) (v : Value) (vs : List Value) (ls : List (List It)) (hT : ls.length ≤ 1048576) (hS : izSum ls ls.length ≤ 1048576) (w : World) (H : Hid (IzV b t w v vs ls)) :
    Calls Try.prog 67 #[v, .int .i64 s] w fun e w' => e = .returned (.int .i64 (s + 3 * (izSum ls ls.length : Int))) ∧ IzV b t w' v vs (izMks s ls ls.length) ∧ Turn (izHits vs ls) w w' := by
  obtain ⟨a, cap, rfl⟩ := H.out.outer.shape
  obtain ⟨len, hlen⟩ : ∃ n, ls.length = n := ⟨_, rfl⟩
  rw [hlen] at hT hS ⊢
  have Hlen : Hid (ls.length = len) := hlen
  have H : Hid (IzV b t w (.slice a len cap) vs ls) := by rw [← hlen]; exact H
  clear hlen
  go_enter Try.func67, Try.ntmps67
  go_wp2
  go_loopw [1, 5] (fun kk i wr => ∃ (j : Nat) (kv : Int), j ≤ len ∧ i = .int .i64 j ∧ kk = .int .i64 kv ∧ Hid (kv = s + 3 * (izSum ls j : Int)) ∧ Hid (IzV b t wr (.slice a len cap) vs (izMks s ls j) ∧ Turn (izHits vs ls) w wr)) (fun _ i _ => len - (intOf i).toNat)
  case atStart => exact ⟨0, s, Nat.zero_le _, rfl, rfl, by show s = s + 3 * ((izSum ls 0 : Nat) : Int); rw [izSum_zero]; simp, by rw [izMks_zero]; exact H.out, Turn.refl _ _⟩
  case round =>
    obtain ⟨j, kv, hj, rfl, rfl, Hkv, H2⟩ := hrel
    by_cases hlt : j < len
    · have hjl : j < ls.length := by rw [Hlen.out]; exact hlt
      have hml := izMks_length s ls j
      have hout : SlIn b t wr (.slice a len cap) len vs := by
        have := H2.out.1.outer
        rw [hml, Hlen.out] at this
        exact this
      have hne : vs ≠ [] := by
        intro e
        have := H2.out.1.len
        rw [e, hml] at this
        simp at this
        omega
      obtain ⟨g, off, ha, h1, h2, h3⟩ := SlIn.some hout hne
      subst ha
      have hc := (SlIn.cells hout j (by rw [H2.out.1.len]; omega)).1
      have e0 : vs[j]?.getD undef = izV vs j := by
        unfold izV
        rw [List.getElem?_eq_getElem (by rw [H2.out.1.len]; omega)]
        rfl
      rw [e0] at hc
      have hs := izSum_succ hjl
      have hm := izSum_mono (ls := ls) (i := j + 1) (j := len) (by omega) (by rw [Hlen.out]; exact Nat.le_refl _)
      have k0 : 0 ≤ kv := by have := Hkv.out; omega
      have k1 : kv ≤ 1099511627776 := by have := Hkv.out; omega
      have hrow : ItIn b t wr (izV vs j) (izAt ls j) := by
        have := H2.out.1.row j (by rw [hml]; exact hjl)
        rw [izMks_at s ls j hjl, if_neg (by omega)] at this
        exact this
      have C := markItsG kv k0 k1 b t (izV vs j) (izAt ls j) (by omega) wr hrow
      have St : Hid (∀ w', ItIn b t w' (izV vs j) (itMksF kv (izAt ls j) (izAt ls j).length) → Turn (Hits (izV vs j) ((izAt ls j).length * 3)) wr w' → IzV b t w' (.slice (some ⟨g, off, none⟩) len cap) vs (izMks s ls (j + 1)) ∧ Turn (izHits vs ls) w w') := fun w' q1 q2 => by
        rw [Hkv.out] at q1
        exact ⟨H2.out.1.step hjl q1 q2, H2.out.2.trans (q2.wide fun k o hh => ⟨j, hjl, hh⟩)⟩
      have Hs : Hid (izSum ls (j + 1) = izSum ls j + (izAt ls j).length) := hs
      generalize itMksF kv (izAt ls j) (izAt ls j).length = ml at C St
      obtain ⟨i1, c1, ev, -⟩ := H2.out.1.cap j (by rw [hml]; exact hjl)
      rw [izMks_len s ls j hjl] at ev
      rw [ev] at hc
      rw [ev] at C St
      generalize (izAt ls j).length = n at C St Hs hc ev
      clear hrow e0 h1 h2 h3 hs hm ev hne hout
      have hlt' : (j : Int) < (len : Int) := by omega
      go_wp2_with fail
      refine C.mono ?_
      rintro e w2 ⟨rfl, q1, q2⟩
      have H3 : Hid (IzV b t w2 (.slice (some ⟨g, off, none⟩) len cap) vs (izMks s ls (j + 1)) ∧ Turn (izHits vs ls) w w2) := St.out w2 q1 q2
      clear q1 q2 hc St C
      go_wp2
      go_roundw
      case rel =>
        refine ⟨j + 1, _, by omega, by go_num, rfl, ?_, H3⟩
        show _ = s + 3 * ((izSum ls (j + 1) : Nat) : Int)
        rw [Hs.out, Hkv.out]
        push_cast
        omega
      case measure => simp [intOf]; omega
    · obtain rfl : j = len := by omega
      go_wp2
      go_ret
      exact ⟨by rw [← Hkv.out]; rfl, H2.out⟩

set_option maxHeartbeats 3200000 in
set_option maxRecDepth 100000 in
theorem heldIzs (s : Int) (s0 : 0 ≤ s) (s1 : s ≤ 549755813888) (a : Option Addr) (cap : Nat) (ls : List (List It)) (hT : ls.length ≤ 1048576) (hS : izSum ls ls.length ≤ 1048576) (w : World) (H : Hid (IzAt w a (izMks s ls ls.length))) :
    Calls Try.prog 69 #[.slice a ls.length cap, .int .i64 s] w fun e w' => e = .returned (.int .i64 (s + 3 * (izSum ls ls.length : Int))) ∧ w' = w := by
  obtain ⟨len, hlen⟩ : ∃ n, ls.length = n := ⟨_, rfl⟩
  rw [hlen] at hT hS H ⊢
  have Hlen : Hid (ls.length = len) := hlen
  clear hlen
  go_enter Try.func69, Try.ntmps69
  go_wp2
  go_loop [1, 5] (fun kk i => ∃ (j : Nat) (kv : Int), j ≤ len ∧ i = .int .i64 j ∧ kk = .int .i64 kv ∧ Hid (kv = s + 3 * (izSum ls j : Int))) (fun _ i => len - (intOf i).toNat)
  case atStart => exact ⟨0, s, Nat.zero_le _, rfl, rfl, by show s = s + 3 * ((izSum ls 0 : Nat) : Int); rw [izSum_zero]; simp⟩
  case round =>
    obtain ⟨j, kv, hj, rfl, rfl, Hkv⟩ := hrel
    by_cases hlt : j < len
    · have hjl : j < ls.length := by rw [Hlen.out]; exact hlt
      obtain ⟨g, off, i1, c1, ha, hb, hc, hr, -⟩ := H.out j (by rw [izMks_length]; exact hjl)
      subst ha
      rw [izMks_at s ls _ hjl, if_pos hlt] at hc hr
      rw [izMk_length] at hc
      have hs := izSum_succ hjl
      have hm := izSum_mono (ls := ls) (i := j + 1) (j := len) (by omega) (by rw [Hlen.out]; exact Nat.le_refl _)
      have k0 : 0 ≤ kv := by have := Hkv.out; omega
      have k1 : kv ≤ 1099511627776 := by have := Hkv.out; omega
      unfold izMk at hr
      rw [← Hkv.out] at hr
      have C := heldItsF kv k0 k1 i1 c1 (izAt ls j) (by omega) w hr
      have Hs : Hid (izSum ls (j + 1) = izSum ls j + (izAt ls j).length) := hs
      generalize (izAt ls j).length = n at C Hs hc hs
      have k2 : ¬ kv + 3 * (n : Int) < 0 := by omega
      clear hr hm hs
      have hlt' : (j : Int) < (len : Int) := by omega
      go_wp2_with fail
      refine C.mono ?_
      rintro e w2 ⟨rfl, hw⟩
      have hw := hw.symm
      subst hw
      generalize hkn : kv + 3 * (n : Int) = kn at k2 ⊢
      have Hkn : Hid (kn = kv + 3 * (n : Int)) := hkn.symm
      clear hkn
      go_wp2
      go_round
      case rel =>
        refine ⟨j + 1, _, by omega, by go_num, rfl, ?_⟩
        show _ = s + 3 * ((izSum ls (j + 1) : Nat) : Int)
        rw [Hs.out, Hkn.out, Hkv.out]
        push_cast
        omega
      case measure => simp [intOf]; omega
    · obtain rfl : j = len := by omega
      go_wp2
      go_ret
      exact ⟨by rw [← Hkv.out]; rfl, rfl⟩
end Go.Proofs.Ytfkkmjejmflgjaa
