/-
  What the laws do to see whose memory lists of lists of records (Item) are: numbers put into them and looked for again. By the verifier, by program.
-/
import Derived.Test.YtdcekimldgjliaaM0IzPlain
import Derived.Test.YtdcekimldgjliaaM5ItMarkG
namespace Go.Proofs.Ytdcekimldgjliaa
open Go.RowKit

/-- The list at a place with its numbers, which begin at s in the first one. -/
def izMk (s : Int) (ls : List (List It)) (i : Nat) : List It := itMksF (s + 3 * (izSum ls i : Int)) (izAt ls i) (izAt ls i).length
/-- The first j of them with their numbers. -/
def izMks (s : Int) (ls : List (List It)) (j : Nat) : List (List It) := (List.range ls.length).map fun i => if i < j then izMk s ls i else izAt ls i
theorem izMks_length (s : Int) (ls : List (List It)) (j : Nat) : (izMks s ls j).length = ls.length := by simp [izMks]
theorem izMks_at (s : Int) (ls : List (List It)) (j : Nat) {i : Nat} (hi : i < ls.length) : izAt (izMks s ls j) i = if i < j then izMk s ls i else izAt ls i := by
  simp [izAt, izMks, hi]
theorem izMk_length (s : Int) (ls : List (List It)) (i : Nat) : (izMk s ls i).length = (izAt ls i).length := itMksF_length _ _ _ (Nat.le_refl _)
theorem izMks_len (s : Int) (ls : List (List It)) (j : Nat) {i : Nat} (hi : i < ls.length) : (izAt (izMks s ls j) i).length = (izAt ls i).length := by
  rw [izMks_at s ls j hi]
  split
  · exact izMk_length s ls i
  · rfl
theorem izMks_zero (s : Int) (ls : List (List It)) : izMks s ls 0 = ls := by
  apply List.ext_getElem
  · simp [izMks]
  · intro i h1 h2
    simp [izMks, izAt, List.getElem?_eq_getElem h2]
/-- Some cell of one of the lists. -/
def izHits (vs : List Value) (ls : List (List It)) (k o : Nat) : Prop := ∃ i, i < ls.length ∧ Hits (izV vs i) ((izAt ls i).length * 3) k o
theorem IzV.step {s : Int} {b t : Nat} {w w' : World} {v : Value} {vs : List Value} {ls : List (List It)} {j : Nat} (h : IzV b t w v vs (izMks s ls j)) (hj : j < ls.length) (hr : ItIn b t w' (izV vs j) (izMk s ls j)) (ht : Turn (Hits (izV vs j) ((izAt ls j).length * 3)) w w') :
    IzV b t w' v vs (izMks s ls (j + 1)) := by
  have hl := izMks_length s ls j
  have e : ∀ i, i < ls.length → (izAt (izMks s ls (j + 1)) i).length = (izAt (izMks s ls j) i).length := fun i hi => by rw [izMks_len s ls _ hi, izMks_len s ls _ hi]
  refine ⟨?_, by rw [h.len, hl, izMks_length], fun i hi => ?_, fun i hi => ?_, fun i k x o hi hk hne => ?_, fun i x o hi => ?_⟩
  · have h1 := h.outer
    rw [hl] at h1
    rw [izMks_length]
    refine h1.turn ht fun k o hh hx => ?_
    rw [← izMks_len s ls j hj] at hx
    refine h.free j k o (by rw [hl]; exact hj) hx ?_
    rw [hl, ← hl, ← h.len]
    exact hh
  · rw [izMks_length] at hi
    by_cases hij : i = j
    · subst hij
      rw [izMks_at s ls _ hi, if_pos (by omega)]
      exact hr
    · have h1 := h.row i (by rw [hl]; exact hi)
      have e2 : izAt (izMks s ls (j + 1)) i = izAt (izMks s ls j) i := by
        rw [izMks_at s ls _ hi, izMks_at s ls _ hi]
        by_cases hlt : i < j
        · rw [if_pos (by omega), if_pos hlt]
        · rw [if_neg (by omega), if_neg hlt]
      rw [e2]
      refine SlIn.turn h1 ht fun k o hh hx => ?_
      rw [itcells_length] at hh
      rw [← izMks_len s ls j hj] at hx
      exact h.apart i j k o (by rw [hl]; exact hi) (by rw [hl]; exact hj) hij hh hx
  · rw [izMks_length] at hi
    rw [e i hi]
    exact h.cap i (by rw [hl]; exact hi)
  · rw [izMks_length] at hi hk
    rw [e i hi, e k hk]
    exact h.apart i k x o (by rw [hl]; exact hi) (by rw [hl]; exact hk) hne
  · rw [izMks_length] at hi ⊢
    rw [e i hi]
    have := h.free i x o (by rw [hl]; exact hi)
    rw [hl] at this
    exact this

set_option maxHeartbeats 3200000 in
set_option maxRecDepth 100000 in
theorem markIzs (s : Int) (s0 : 0 ≤ s) (s1 : s ≤ 549755813888) (b t : Nat) (v : Value) (vs : List Value) (ls : List (List It)) (hT : ls.length ≤ 1048576) (hS : izSum ls ls.length ≤ 1048576) (w : World) (H : Hid (IzV b t w v vs ls)) :
    Calls Try.prog 43 #[v, .int .i64 s] w fun e w' => e = .returned (.int .i64 (s + 3 * (izSum ls ls.length : Int))) ∧ IzV b t w' v vs (izMks s ls ls.length) ∧ Turn (izHits vs ls) w w' := by
  obtain ⟨a, cap, rfl⟩ := H.out.outer.shape
  obtain ⟨len, hlen⟩ : ∃ n, ls.length = n := ⟨_, rfl⟩
  rw [hlen] at hT hS ⊢
  have Hlen : Hid (ls.length = len) := hlen
  have H : Hid (IzV b t w (.slice a len cap) vs ls) := by rw [← hlen]; exact H
  clear hlen
  go_enter Try.func43, Try.ntmps43
  go_wp2
  go_loopw [1, 5] (fun kk i wr => ∃ (j : Nat) (kv : Int), j ≤ len ∧ i = .int .i64 j ∧ kk = .int .i64 kv ∧ Hid (kv = s + 3 * (izSum ls j : Int)) ∧ Hid (IzV b t wr (.slice a len cap) vs (izMks s ls j) ∧ Turn (izHits vs ls) w wr)) (fun _ i _ => len - (intOf i).toNat)
  case atStart => exact ⟨0, s, Nat.zero_le _, rfl, rfl, by show s = s + 3 * ((izSum ls 0 : Nat) : Int); rw [izSum_zero]; simp, by rw [izMks_zero]; exact H.out, Turn.refl _ _⟩
  case round =>
    obtain ⟨j, kv, hj, rfl, rfl, Hkv, H2⟩ := hrel
    by_cases hlt : j < len
    · have hjl : j < ls.length := by rw [Hlen.out]; exact hlt
      have hml := izMks_length s ls j
      have hout : SlIn b t wr (.slice a len cap) len vs := by
        have := H2.out.1.outer
        rw [hml, Hlen.out] at this
        exact this
      have hne : vs ≠ [] := by
        intro e
        have := H2.out.1.len
        rw [e, hml] at this
        simp at this
        omega
      obtain ⟨g, off, ha, h1, h2, h3⟩ := SlIn.some hout hne
      subst ha
      have hc := (SlIn.cells hout j (by rw [H2.out.1.len]; omega)).1
      have e0 : vs[j]?.getD undef = izV vs j := by
        unfold izV
        rw [List.getElem?_eq_getElem (by rw [H2.out.1.len]; omega)]
        rfl
      rw [e0] at hc
      have hs := izSum_succ hjl
      have hm := izSum_mono (ls := ls) (i := j + 1) (j := len) (by omega) (by rw [Hlen.out]; exact Nat.le_refl _)
      have k0 : 0 ≤ kv := by have := Hkv.out; omega
      have k1 : kv ≤ 1099511627776 := by have := Hkv.out; omega
      have hrow : ItIn b t wr (izV vs j) (izAt ls j) := by
        have := H2.out.1.row j (by rw [hml]; exact hjl)
        rw [izMks_at s ls j hjl, if_neg (by omega)] at this
        exact this
      have C := markItsG kv k0 k1 b t (izV vs j) (izAt ls j) (by omega) wr hrow
      have St : Hid (∀ w', ItIn b t w' (izV vs j) (itMksF kv (izAt ls j) (izAt ls j).length) → Turn (Hits (izV vs j) ((izAt ls j).length * 3)) wr w' → IzV b t w' (.slice (some ⟨g, off, none⟩) len cap) vs (izMks s ls (j + 1)) ∧ Turn (izHits vs ls) w w') := fun w' q1 q2 => by
        rw [Hkv.out] at q1
        exact ⟨H2.out.1.step hjl q1 q2, H2.out.2.trans (q2.wide fun k o hh => ⟨j, hjl, hh⟩)⟩
      have Hs : Hid (izSum ls (j + 1) = izSum ls j + (izAt ls j).length) := hs
      generalize itMksF kv (izAt ls j) (izAt ls j).length = ml at C St
      obtain ⟨i1, c1, ev, -⟩ := H2.out.1.cap j (by rw [hml]; exact hjl)
      rw [izMks_len s ls j hjl] at ev
      rw [ev] at hc
      rw [ev] at C St
      generalize (izAt ls j).length = n at C St Hs hc ev
      clear hrow e0 h1 h2 h3 hs hm ev hne hout
      have hlt' : (j : Int) < (len : Int) := by omega
      go_wp2_with fail
      refine C.mono ?_
      rintro e w2 ⟨rfl, q1, q2⟩
      have H3 : Hid (IzV b t w2 (.slice (some ⟨g, off, none⟩) len cap) vs (izMks s ls (j + 1)) ∧ Turn (izHits vs ls) w w2) := St.out w2 q1 q2
      clear q1 q2 hc St C
      go_wp2
      go_roundw
      case rel =>
        refine ⟨j + 1, _, by omega, by go_num, rfl, ?_, H3⟩
        show _ = s + 3 * ((izSum ls (j + 1) : Nat) : Int)
        rw [Hs.out, Hkv.out]
        push_cast
        omega
      case measure => simp [intOf]; omega
    · obtain rfl : j = len := by omega
      go_wp2
      go_ret
      exact ⟨by rw [← Hkv.out]; rfl, H2.out⟩

set_option maxHeartbeats 3200000 in
set_option maxRecDepth 100000 in
theorem heldIzs (s : Int) (s0 : 0 ≤ s) (s1 : s ≤ 549755813888) (a : Option Addr) (cap : Nat) (ls : List (List It)) (hT : ls.length ≤ 1048576) (hS : izSum ls ls.length ≤ 1048576) (w : World) (H : Hid (IzAt w a (izMks s ls ls.length))) :
    Calls Try.prog 44 #[.slice a ls.length cap, .int .i64 s] w fun e w' => e = .returned (.int .i64 (s + 3 * (izSum ls ls.length : Int))) ∧ w' = w := by
  obtain ⟨len, hlen⟩ : ∃ n, ls.length = n := ⟨_, rfl⟩
  rw [hlen] at hT hS H ⊢
  have Hlen : Hid (ls.length = len) := hlen
  clear hlen
  go_enter Try.func44, Try.ntmps44
  go_wp2
  go_loop [1, 5] (fun kk i => ∃ (j : Nat) (kv : Int), j ≤ len ∧ i = .int .i64 j ∧ kk = .int .i64 kv ∧ Hid (kv = s + 3 * (izSum ls j : Int))) (fun _ i => len - (intOf i).toNat)
  case atStart => exact ⟨0, s, Nat.zero_le _, rfl, rfl, by show s = s + 3 * ((izSum ls 0 : Nat) : Int); rw [izSum_zero]; simp⟩
  case round =>
    obtain ⟨j, kv, hj, rfl, rfl, Hkv⟩ := hrel
    by_cases hlt : j < len
    · have hjl : j < ls.length := by rw [Hlen.out]; exact hlt
      obtain ⟨g, off, i1, c1, ha, hb, hc, hr, -⟩ := H.out j (by rw [izMks_length]; exact hjl)
      subst ha
      rw [izMks_at s ls _ hjl, if_pos hlt] at hc hr
      rw [izMk_length] at hc
      have hs := izSum_succ hjl
      have hm := izSum_mono (ls := ls) (i := j + 1) (j := len) (by omega) (by rw [Hlen.out]; exact Nat.le_refl _)
      have k0 : 0 ≤ kv := by have := Hkv.out; omega
      have k1 : kv ≤ 1099511627776 := by have := Hkv.out; omega
      unfold izMk at hr
      rw [← Hkv.out] at hr
      have C := heldItsF kv k0 k1 i1 c1 (izAt ls j) (by omega) w hr
      have Hs : Hid (izSum ls (j + 1) = izSum ls j + (izAt ls j).length) := hs
      generalize (izAt ls j).length = n at C Hs hc hs
      have k2 : ¬ kv + 3 * (n : Int) < 0 := by omega
      clear hr hm hs
      have hlt' : (j : Int) < (len : Int) := by omega
      go_wp2_with fail
      refine C.mono ?_
      rintro e w2 ⟨rfl, hw⟩
      have hw := hw.symm
      subst hw
      generalize hkn : kv + 3 * (n : Int) = kn at k2 ⊢
      have Hkn : Hid (kn = kv + 3 * (n : Int)) := hkn.symm
      clear hkn
      go_wp2
      go_round
      case rel =>
        refine ⟨j + 1, _, by omega, by go_num, rfl, ?_⟩
        show _ = s + 3 * ((izSum ls (j + 1) : Nat) : Int)
        rw [Hs.out, Hkn.out, Hkv.out]
        push_cast
        omega
      case measure => simp [intOf]; omega
    · obtain rfl : j = len := by omega
      go_wp2
      go_ret
      exact ⟨by rw [← Hkv.out]; rfl, rfl⟩
end Go.Proofs.Ytdcekimldgjliaa
