import Derived.Test.YtfkkmjejmflgjaaQ6RwFn
import Derived.Test.YtfkkmjejmflgjaaQ11Quiet
import Derived.Laws.AppendOwnNone
import Derived.Lib.SliceRun
import Derived.WalkKit
import Derived.WalkSpells
import Derived.WalkLawsBesides
import Derived.Handy
import Derived.Laws.AppendOwn
import Derived.Laws.OwnMore
import Derived.RowKit3
import Derived.Deep.RegionLaw
import Derived.Test.YtfkkmjejmflgjaaQ5FwPlain
/-
  Records (Item) put behind records of the call's own. By the verifier, by program.
-/
namespace Go.Proofs.Ytfkkmjejmflgjaa
open Go.RowKit

theorem ItRow.none {base : Nat} {w : World} {a : Option Addr} {n cap : Nat} {l : List It} (h : ItRow base w (.slice a n cap) l) : a = .none → cap = 0 := by
  rintro rfl
  rcases h.2 with ⟨e, _⟩ | ⟨g, cap', cur, e, _⟩
  · cases e; rfl
  · cases e
theorem ItRow.some {base : Nat} {w : World} {v : Value} {l : List It} (h : ItRow base w v l) (hv : v ≠ .slice .none 0 0) : ∃ g cap, v = .slice (.some ⟨g, 0, .none⟩) l.length cap := by
  rcases h.2 with ⟨e, _⟩ | ⟨g, cap, cur, e, _⟩
  · exact absurd e hv
  · exact ⟨g, cap, e⟩
end Go.Proofs.Ytfkkmjejmflgjaa

/-
  Where the list lies that an append answers: where the first one lay, or in the next block. By the verifier.
-/
namespace Go.Proofs.Ytfkkmjejmflgjaa
open Go.RowKit

theorem run_append_where {P : Program} (w : World) (base : Nat) (t ty e : TypeId) (i : TypeInfo) (z : Value) (size bytes : Nat) (ht : P.underlying t = some (.slice e)) (hi : P.info? e = some i) (hz : i.zero = some z)
    (hsize : i.size = size) (hby : i.bytes = bytes) (hzs : z.cells.size = size) (hsz : 0 < size)
    (v : Value) (n : Nat) (xs : List Value) (hown : w.ownsRow base e size v n xs)
    (a : Addr) (m c : Nat) (news : List Value) (hl : news.length = m * size) (hnews : ∀ j u, news[j]? = some u → w.cell? (a.add j) = some u) (h1 : ∀ u ∈ news, u.oneCell' = true)
    (h63 : n + m ≤ maxLen) (hbytes : (n + m) * bytes ≤ 140737488355328) (hbase : base ≤ w.heap.size) :
    ∃ v' w', (Builtin.append_ #[t, t] ty #[v, .slice (some a) m c]).run P w = .ok v' w' ∧ w'.ownsRow base e size v' (n + m) (xs ++ news) ∧ w.grownBy w' v.ownBlock ∧
      (v' = .slice none 0 0 ↔ v = .slice none 0 0 ∧ m = 0) ∧ (v'.ownBlock = v.ownBlock ∨ v'.ownBlock = some w.heap.size) := by
  obtain ⟨v', w', hr, h2, h3, h4⟩ := run_append_own (P := P) w base t ty e i z size bytes ht hi hz hsize hby hzs hsz v n xs hown a m c news hl hnews h1 h63 hbytes hbase
  refine ⟨v', w', hr, h2, h3, h4, ?_⟩
  have hsmall : n + m ≤ 9223372036854775807 := by simp only [maxLen] at h63; omega
  subst hsize
  subst hby
  rcases hown.2 with ⟨rfl, rfl⟩ | ⟨g, cap, cur, rfl, hbg, hg, hnc, hcm, hcs, htake⟩
  · by_cases hm : m = 0
    · left
      rw [h4.2 ⟨rfl, hm⟩]
    · have hr2 := run_append_nil (P := P) w t ty e i z ht hi hz a m c news hl hnews (by omega) (by omega) (by have hb := hbytes; simp only [Nat.zero_add] at hb; omega)
      rw [hr] at hr2
      cases hr2
      right
      rfl
  · by_cases hroom : n + m ≤ cap
    · have hfit : n * i.size + news.length ≤ cur.size := by rw [hl, hcs, ← Nat.add_mul]; exact Nat.mul_le_mul_right _ hroom
      have hr2 := run_append_room (P := P) w t ty e i ht hi g n cap cur hg a m c news hl hnews h1 hroom hfit
      rw [hr] at hr2
      cases hr2
      left
      rfl
    · have hr2 := run_append_grow (P := P) w t ty e i z ht hi hz ⟨g, 0, none⟩ n cap xs hown.1 (hown.cells (g := g) rfl) a m c news hl hnews (by omega) (by omega) (growslice_fits (by omega) hbytes)
      rw [hr] at hr2
      cases hr2
      right
      rfl
end Go.Proofs.Ytfkkmjejmflgjaa

/-
  Lists of lists of records (Item) that grow, list by list, by append. By the verifier, by program.
-/
namespace Go.Proofs.Ytfkkmjejmflgjaa
open Go.RowKit

/-- So many lists of the call's own behind each other: the list of headers v, the headers vs. -/
structure IzG (base : Nat) (v : Value) (vs : List Value) (ls : List (List It)) (wr : World) : Prop where
  outer : wr.ownsRow base 88 1 v ls.length vs
  len : vs.length = ls.length
  row : ∀ i, i < ls.length → ItRow base wr (izV vs i) (izAt ls i)
  apart : ∀ i j k, i < ls.length → j < ls.length → i ≠ j → (izV vs i).ownBlock = some k → (izV vs j).ownBlock ≠ some k
section
variable {base : Nat} {v v' u : Value} {vs : List Value} {ls : List (List It)} {l : List It} {wr wd wx : World}
theorem izTypes : (88 : TypeId) ≠ 91 := by decide
/-- Rows of unlike kinds lie in unlike blocks. -/
theorem rows_unlike {b1 b2 : Nat} {e1 e2 : TypeId} {c1 c2 n1 n2 : Nat} {v1 v2 : Value} {x1 x2 : List Value} {w : World} (h1 : w.ownsRow b1 e1 c1 v1 n1 x1) (h2 : w.ownsRow b2 e2 c2 v2 n2 x2) (hne : e1 ≠ e2) (k : Nat) (hk : v1.ownBlock = some k) : v2.ownBlock ≠ some k := by
  intro hk2
  rcases h1.2 with ⟨rfl, _⟩ | ⟨g, cap, cur, rfl, _, hg, _⟩
  · cases hk
  rcases h2.2 with ⟨rfl, _⟩ | ⟨g', cap', cur', rfl, _, hg', _⟩
  · cases hk2
  cases hk
  cases hk2
  rw [hg] at hg'
  simp only [Option.some.injEq, Obj.cells.injEq] at hg'
  exact hne hg'.2.1
theorem IzG.nil (base : Nat) (w : World) : IzG base (.slice none 0 0) [] [] w :=
  ⟨World.ownsRow_nil w base _ 1, rfl, fun i hi => by simp at hi, fun i j k hi => by simp at hi⟩
theorem rows_carry {b : Nat} {e : TypeId} {c n : Nat} {v : Value} {xs : List Value} {w w' : World} (h : w.ownsRow b e c v n xs) (g : ∀ k, v.ownBlock = some k → k < w.heap.size → w'.heap[k]? = w.heap[k]?) : w'.ownsRow b e c v n xs := by
  refine ⟨h.1, h.2.imp id ?_⟩
  rintro ⟨g0, cap, cur, h1, h2, h3, h4⟩
  exact ⟨g0, cap, cur, h1, h2, by rw [g g0 (by rw [h1]; rfl) (Array.getElem?_eq_some_iff.1 h3).1]; exact h3, h4⟩
theorem IzG.below (h : IzG base v vs ls wr) (g : Below wr.heap.size wr wd) : IzG base v vs ls wd :=
  ⟨rows_carry h.outer fun k _ hk => g.block k hk, h.len, fun i hi => (h.row i hi).carry fun k _ hk => g.block k hk, h.apart⟩
/-- What lies elsewhere is turned. -/
theorem IzG.other (h : IzG base v vs ls wr) (g : ∀ k, base ≤ k → k < wr.heap.size → wd.heap[k]? = wr.heap[k]?) : IzG base v vs ls wd :=
  ⟨rows_carry h.outer fun k hk hl => g k (World.ownsRow.lt h.outer k hk).1 hl, h.len, fun i hi => (h.row i hi).carry fun k hk hl => g k ((h.row i hi).lt k hk).1 hl, h.apart⟩
/-- One list more: its row u is new, its header was put behind the headers. -/
theorem IzG.add (h : IzG base v vs ls wr) (hb : base ≤ wr.heap.size) (g1 : Below wr.heap.size wr wd) (hu : ItRow wr.heap.size wd u l) (ho : wx.ownsRow base 88 1 v' (ls.length + 1) (vs ++ [u])) (g2 : ∀ k, v.ownBlock ≠ some k → k < wd.heap.size → wx.heap[k]? = wd.heap[k]?) :
    IzG base v' (vs ++ [u]) (ls ++ [l]) wx := by
  have hd := h.below g1
  have hl := h.len
  have e1 : ∀ i, i < ls.length → izV (vs ++ [u]) i = izV vs i := fun i hi => izV_old (by omega)
  have e2 : izV (vs ++ [u]) ls.length = u := by rw [← hl]; exact izV_new
  have f1 : ∀ i, i < ls.length → izAt (ls ++ [l]) i = izAt ls i := fun i hi => by unfold izAt; rw [List.getElem?_append_left hi]
  have f2 : izAt (ls ++ [l]) ls.length = l := by simp [izAt]
  refine ⟨by simpa using ho, by simp [hl], fun i hi => ?_, fun i j k hi hj hne h1 h2 => ?_⟩
  · rw [List.length_append, List.length_singleton] at hi
    by_cases e : i = ls.length
    · subst e
      rw [e2, f2]
      exact (hu.carry fun k hk hlt => g2 k (fun q => by have a1 := (hu.lt k hk).1; have a2 := (World.ownsRow.lt h.outer k q).2; omega) hlt).mono hb
    · rw [e1 i (by omega), f1 i (by omega)]
      refine (hd.row i (by omega)).carry fun k hk hlt => g2 k (fun q => ?_) hlt
      exact rows_unlike hd.outer (hd.row i (by omega)) izTypes k q hk
  · rw [List.length_append, List.length_singleton] at hi hj
    have new : ∀ i, i < ls.length → (izV vs i).ownBlock = some k → u.ownBlock ≠ some k := fun i hi a1 a2 => by
      have b1 := ((h.row i hi).lt k a1).2
      have b2 := (hu.lt k a2).1
      omega
    by_cases ei : i = ls.length
    · subst ei
      rw [e2] at h1
      rw [e1 j (by omega)] at h2
      exact new j (by omega) h2 h1
    · rw [e1 i (by omega)] at h1
      by_cases ej : j = ls.length
      · subst ej
        rw [e2] at h2
        exact new i (by omega) h1 h2
      · rw [e1 j (by omega)] at h2
        exact h.apart i j k (by omega) (by omega) hne h1 h2
/-- One list in the place of another: it lies where that lay, or behind all. -/
theorem IzG.set (h : IzG base v vs ls wd) {j : Nat} (hj : j < ls.length) (hu : ItRow base wx u l) (g2 : ∀ k, (izV vs j).ownBlock ≠ some k → k < wd.heap.size → wx.heap[k]? = wd.heap[k]?) (hw : ∀ k, u.ownBlock = some k → (izV vs j).ownBlock = some k ∨ wd.heap.size ≤ k) {g cap : Nat} (hv : v = .slice (some ⟨g, 0, none⟩) ls.length cap) :
    IzG base v (vs.set j u) (ls.set j l) (wx.setCell ⟨g, j, none⟩ u) := by
  have hl := h.len
  have ho : wx.ownsRow base 88 1 v ls.length vs := rows_carry h.outer fun k hk hlt => g2 k (fun q => rows_unlike h.outer (h.row j hj) izTypes k hk q) hlt
  have e1 : ∀ i, i ≠ j → izV (vs.set j u) i = izV vs i := fun i hi => by unfold izV; rw [List.getElem?_set_ne (fun e => hi e.symm)]
  have e2 : izV (vs.set j u) j = u := by unfold izV; rw [List.getElem?_set_self (by omega)]; rfl
  have f1 : ∀ i, i ≠ j → izAt (ls.set j l) i = izAt ls i := fun i hi => by unfold izAt; rw [List.getElem?_set_ne (fun e => hi e.symm)]
  have f2 : izAt (ls.set j l) j = l := by unfold izAt; rw [List.getElem?_set_self hj]; rfl
  have oth : ∀ y, y ≠ g → (wx.setCell ⟨g, j, none⟩ u).heap[y]? = wx.heap[y]? := fun y hy => Below.heap_setCell _ _ _ _ hy
  have hvb : v.ownBlock = some g := by rw [hv]; rfl
  have old : ∀ i, i < ls.length → i ≠ j → ItRow base wx (izV vs i) (izAt ls i) := fun i hi hne => (h.row i hi).carry fun k hk hlt => g2 k (h.apart i j k hi hj hne hk) hlt
  refine ⟨?_, by rw [List.length_set, List.length_set, hl], fun i hi => ?_, fun i k y hi hk hne h1 h2 => ?_⟩
  · rw [List.length_set]
    rw [hv] at ho ⊢
    exact (ho.stored j u).1
  · rw [List.length_set] at hi
    by_cases e : i = j
    · subst e
      rw [e2, f2]
      exact hu.carry fun k hk _ => oth k fun q => rows_unlike ho hu izTypes k (by rw [hvb, q]) hk
    · rw [e1 i e, f1 i e]
      exact (old i hi e).carry fun k hk _ => oth k fun q => rows_unlike ho (old i hi e) izTypes k (by rw [hvb, q]) hk
  · rw [List.length_set] at hi hk
    have new : ∀ i, i < ls.length → i ≠ j → (izV vs i).ownBlock = some y → u.ownBlock ≠ some y := fun i hi hne a1 a2 => by
      rcases hw y a2 with a3 | a3
      · exact h.apart i j y hi hj hne a1 a3
      · have := ((h.row i hi).lt y a1).2
        omega
    by_cases ei : i = j
    · subst ei
      rw [e2] at h1
      rw [e1 k (fun e => hne e.symm)] at h2
      exact new k hk (fun e => hne e.symm) h2 h1
    · rw [e1 i ei] at h1
      by_cases ek : k = j
      · subst ek
        rw [e2] at h2
        exact new i hi ei h1 h2
      · rw [e1 k ek] at h2
        exact h.apart i k y hi hk hne h1 h2
theorem IzG.done (h : IzG base v vs ls wr) : IzV base wr.heap.size wr v vs ls := by
  refine ⟨SlIn.of_row h.outer (fun k hk => (World.ownsRow.lt h.outer k hk).2) (Nat.le_refl _), h.len, fun i hi => ItIn.of_row (h.row i hi) (fun k hk => ((h.row i hi).lt k hk).2) (Nat.le_refl _), fun i hi => ?_, fun i j k o hi hj hne h1 h2 => ?_, fun i k o hi h1 h2 => ?_⟩
  · obtain ⟨a, c, e⟩ := (h.row i hi).shape
    have hr := h.row i hi
    rw [e] at hr
    exact ⟨a, c, e, hr.cap, hr.nilCap⟩
  · exact h.apart i j k hi hj hne (izOwn h1) (izOwn h2)
  · exact rows_unlike h.outer (h.row i hi) izTypes k (izOwn h2) (izOwn h1)
end
end Go.Proofs.Ytfkkmjejmflgjaa

/-
  Lists of records with a list (Flow) that grow, one by one, by append. By the verifier, by program.
-/
namespace Go.Proofs.Ytfkkmjejmflgjaa
open Go.RowKit

/-- So many records of the call's own behind each other: the list v, as they lie rs. -/
structure FwG (base : Nat) (v : Value) (rs : List Fwr) (l : List Fw) (wr : World) : Prop where
  outer : wr.ownsRow base 55 3 v l.length (fwcells rs)
  len : rs.length = l.length
  num : ∀ i, i < l.length → (fwrAt rs i).weight = (fwAt l i).weight ∧ (fwrAt rs i).finish = (fwAt l i).finish
  row : ∀ i, i < l.length → IRow base wr (fwrAt rs i).hd (fwAt l i).sizes
  apart : ∀ i j k, i < l.length → j < l.length → i ≠ j → (fwrAt rs i).hd.ownBlock = some k → (fwrAt rs j).hd.ownBlock ≠ some k
section
variable {base : Nat} {v v' u : Value} {rs : List Fwr} {l : List Fw} {wr wd wx : World}
theorem fwTypes : (55 : TypeId) ≠ 2 := by decide
/-- Rows of unlike kinds lie in unlike blocks. -/
theorem fwrows_unlike {b1 b2 : Nat} {e1 e2 : TypeId} {c1 c2 n1 n2 : Nat} {v1 v2 : Value} {x1 x2 : List Value} {w : World} (h1 : w.ownsRow b1 e1 c1 v1 n1 x1) (h2 : w.ownsRow b2 e2 c2 v2 n2 x2) (hne : e1 ≠ e2) (k : Nat) (hk : v1.ownBlock = some k) : v2.ownBlock ≠ some k := by
  intro hk2
  rcases h1.2 with ⟨rfl, _⟩ | ⟨g, cap, cur, rfl, _, hg, _⟩
  · cases hk
  rcases h2.2 with ⟨rfl, _⟩ | ⟨g', cap', cur', rfl, _, hg', _⟩
  · cases hk2
  cases hk
  cases hk2
  rw [hg] at hg'
  simp only [Option.some.injEq, Obj.cells.injEq] at hg'
  exact hne hg'.2.1
theorem fwrows_shape {b : Nat} {e : TypeId} {c n : Nat} {v : Value} {xs : List Value} {w : World} (h : w.ownsRow b e c v n xs) : ∃ a cap, v = .slice a n cap := by
  rcases h.2 with ⟨rfl, rfl⟩ | ⟨g, cap, cur, rfl, _⟩
  · exact ⟨none, 0, rfl⟩
  · exact ⟨_, _, rfl⟩
theorem fwrows_carry {b : Nat} {e : TypeId} {c n : Nat} {v : Value} {xs : List Value} {w w' : World} (h : w.ownsRow b e c v n xs) (g : ∀ k, v.ownBlock = some k → k < w.heap.size → w'.heap[k]? = w.heap[k]?) : w'.ownsRow b e c v n xs := by
  refine ⟨h.1, h.2.imp id ?_⟩
  rintro ⟨g0, cap, cur, h1, h2, h3, h4⟩
  exact ⟨g0, cap, cur, h1, h2, by rw [g g0 (by rw [h1]; rfl) (Array.getElem?_eq_some_iff.1 h3).1]; exact h3, h4⟩
theorem FwG.nil (base : Nat) (w : World) : FwG base (.slice none 0 0) [] [] w :=
  ⟨World.ownsRow_nil w base _ 3, rfl, fun i hi => by simp at hi, fun i hi => by simp at hi, fun i j k hi => by simp at hi⟩
theorem FwG.below (h : FwG base v rs l wr) (gr : Below wr.heap.size wr wd) : FwG base v rs l wd :=
  ⟨fwrows_carry h.outer fun k _ hk => gr.block k hk, h.len, h.num, fun i hi => fwrows_carry (h.row i hi) fun k _ hk => gr.block k hk, h.apart⟩
/-- What lies elsewhere is turned. -/
theorem FwG.other (h : FwG base v rs l wr) (gr : ∀ k, base ≤ k → k < wr.heap.size → wd.heap[k]? = wr.heap[k]?) : FwG base v rs l wd :=
  ⟨fwrows_carry h.outer fun k hk hl => gr k (World.ownsRow.lt h.outer k hk).1 hl, h.len, h.num, fun i hi => fwrows_carry (h.row i hi) fun k hk hl => gr k ((h.row i hi).lt k hk).1 hl, h.apart⟩
/-- One more: its list u is new, it was put behind the records. -/
theorem FwG.add (h : FwG base v rs l wr) {r : Fw} (hb : base ≤ wr.heap.size) (g1 : Below wr.heap.size wr wd) (hu : IRow wr.heap.size wd u r.sizes) (ho : wx.ownsRow base 55 3 v' (l.length + 1) (fwcells (rs ++ [⟨r.weight, r.finish, u⟩]))) (g2 : ∀ k, v.ownBlock ≠ some k → k < wd.heap.size → wx.heap[k]? = wd.heap[k]?) :
    FwG base v' (rs ++ [⟨r.weight, r.finish, u⟩]) (l ++ [r]) wx := by
  have hd := h.below g1
  have hl := h.len
  have e1 : ∀ i, i < l.length → fwrAt (rs ++ [⟨r.weight, r.finish, u⟩]) i = fwrAt rs i := fun i hi => fwrAt_old (by omega)
  have e2 : fwrAt (rs ++ [⟨r.weight, r.finish, u⟩]) l.length = ⟨r.weight, r.finish, u⟩ := by rw [← hl]; exact fwrAt_new
  refine ⟨by simpa using ho, by simp [hl], fun i hi => ?_, fun i hi => ?_, fun i j k hi hj hne h1 h2 => ?_⟩
  · rw [List.length_append, List.length_singleton] at hi
    by_cases e : i = l.length
    · subst e
      rw [e2, fwAt_new]
      exact ⟨rfl, rfl⟩
    · rw [e1 i (by omega), fwAt_old (by omega)]
      exact h.num i (by omega)
  · rw [List.length_append, List.length_singleton] at hi
    by_cases e : i = l.length
    · subst e
      rw [e2, fwAt_new]
      have hu' : IRow wr.heap.size wx u r.sizes := fwrows_carry hu fun k hk hlt => g2 k (fun q => by have a1 := (hu.lt k hk).1; have a2 := (World.ownsRow.lt h.outer k q).2; omega) hlt
      exact hu'.mono hb
    · rw [e1 i (by omega), fwAt_old (by omega)]
      refine fwrows_carry (hd.row i (by omega)) fun k hk hlt => g2 k (fun q => ?_) hlt
      exact fwrows_unlike hd.outer (hd.row i (by omega)) fwTypes k q hk
  · rw [List.length_append, List.length_singleton] at hi hj
    have new : ∀ i, i < l.length → (fwrAt rs i).hd.ownBlock = some k → u.ownBlock ≠ some k := fun i hi a1 a2 => by
      have b1 := ((h.row i hi).lt k a1).2
      have b2 := (hu.lt k a2).1
      omega
    by_cases ei : i = l.length
    · subst ei
      rw [e2] at h1
      rw [e1 j (by omega)] at h2
      exact new j (by omega) h2 h1
    · rw [e1 i (by omega)] at h1
      by_cases ej : j = l.length
      · subst ej
        rw [e2] at h2
        exact new i (by omega) h1 h2
      · rw [e1 j (by omega)] at h2
        exact h.apart i j k (by omega) (by omega) hne h1 h2
theorem FwG.done (h : FwG base v rs l wr) : FwV base wr.heap.size wr v rs l := by
  refine ⟨SlIn.of_row h.outer (fun k hk => (World.ownsRow.lt h.outer k hk).2) (Nat.le_refl _), h.len, h.num, fun i hi => IntIn.of_row (h.row i hi) (fun k hk => ((h.row i hi).lt k hk).2) (Nat.le_refl _), fun i hi => ?_, fun i j k o hi hj hne h1 h2 => ?_, fun i k o hi h1 h2 => ?_⟩
  · obtain ⟨a, c, e⟩ := (h.row i hi).shape
    have hr := h.row i hi
    rw [e] at hr
    refine ⟨a, c, e, ?_, hr.none⟩
    rcases hr.2 with ⟨e1, e2⟩ | ⟨g0, cap, cur, e1, _, _, h4, _⟩
    · rw [e2]; exact Nat.zero_le _
    · simp only [Value.slice.injEq] at e1; rw [e1.2.2]; exact h4
  · exact h.apart i j k hi hj hne (fwOwn h1) (fwOwn h2)
  · exact fwrows_unlike h.outer (h.row i hi) fwTypes k (fwOwn h2) (fwOwn h1)
end
/-- One record more, that lies in a block of its own. -/
theorem fw_op_at {o : Oper} {a : Act} {w : World} {K : Act → World → Prop} {Q : Exit → Act → World → Prop} (s x : Operand)
    (ho : o.op = .call { callee := .builtin .append, args := #[s, x], argTypes := #[35, 35] })
    (base : Nat) (v : Value) (k : Nat) (rs : List Fwr) (r : Fwr) (hu : r.hd.oneCell' = true) (hs : a.eval s = v) (hrow : w.ownsRow base 55 3 v k (fwcells rs)) {n : Nat} (hx : a.eval x = .slice (some ⟨n, 0, none⟩) 1 1) (hn : Boxed w n r.cells.toArray 55)
    (hlen : k ≤ 1048576) (hb : base ≤ w.heap.size)
    (h : ∀ v' w', w'.ownsRow base 55 3 v' (k + 1) (fwcells (rs ++ [r])) → Below base w w' → (∀ k, v.ownBlock ≠ some k → k < w.heap.size → w'.heap[k]? = w.heap[k]?) → K (a.put o.dst v') w') : o.wp Try.prog a w K Q := by
  obtain ⟨i0, hi, hz0, hz1, hz2⟩ := info_parts fwInfo
  obtain ⟨v', w', hrun, h1, h2, _⟩ := run_append_own (P := Try.prog) w base 35 o.type 55 i0 _ 3 40 Try.underlying35 hi hz0 hz1 hz2 rfl (by decide) v _ _ hrow ⟨n, 0, none⟩ 1 1 r.cells rfl
    (by
      intro j u hj
      have e : (⟨n, 0, none⟩ : Addr).add j = ⟨n, j, none⟩ := by by_cases h0 : j = 0 <;> simp [Addr.add, h0]
      rw [e]
      exact hn.cell j (by simpa using hj)) (by intro y hy; simp only [Fwr.cells, List.mem_cons, List.not_mem_nil, or_false] at hy; rcases hy with rfl | rfl | rfl <;> first | rfl | exact hu) (by unfold maxLen; omega) (by omega) hb
  unfold Oper.wp
  simp [execOp, ho, resolve, invoke, builtin, hs, hx, hrun, Result.andThen]
  refine h v' w' ?_ ?_ ?_
  · rw [fwcells_append]
    simpa [fwcells] using h1
  · exact (Below.refl base w).grown h2 hb (fun j hj => (World.ownsRow.lt hrow j hj).1)
  · intro j hj hl
    exact h2.block j hl (fun e => hj e.symm)
end Go.Proofs.Ytfkkmjejmflgjaa
