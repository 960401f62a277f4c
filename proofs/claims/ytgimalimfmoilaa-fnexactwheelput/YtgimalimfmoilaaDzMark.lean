/-
  What the laws do to see whose memory lists of lists of records (Due) are: numbers put into them and looked for again. By the verifier, by program.
-/
import Derived.Test.YtgimalimfmoilaaM0DzPlain
import Derived.Test.YtgimalimfmoilaaM7DuMarkG
namespace Go.Proofs.Ytgimalimfmoilaa
open Go.RowKit

/-- The list at a place with its numbers, which begin at s in the first one. -/
def dzMk (s : Int) (ls : List (List Du)) (i : Nat) : List Du := duMksF (s + 2 * (dzSum ls i : Int)) (dzAt ls i) (dzAt ls i).length
/-- The first j of them with their numbers. -/
def dzMks (s : Int) (ls : List (List Du)) (j : Nat) : List (List Du) := (List.range ls.length).map fun i => if i < j then dzMk s ls i else dzAt ls i
theorem dzMks_length (s : Int) (ls : List (List Du)) (j : Nat) : (dzMks s ls j).length = ls.length := by simp [dzMks]
theorem dzMks_at (s : Int) (ls : List (List Du)) (j : Nat) {i : Nat} (hi : i < ls.length) : dzAt (dzMks s ls j) i = if i < j then dzMk s ls i else dzAt ls i := by
  simp [dzAt, dzMks, hi]
theorem dzMk_length (s : Int) (ls : List (List Du)) (i : Nat) : (dzMk s ls i).length = (dzAt ls i).length := duMksF_length _ _ _ (Nat.le_refl _)
theorem dzMks_len (s : Int) (ls : List (List Du)) (j : Nat) {i : Nat} (hi : i < ls.length) : (dzAt (dzMks s ls j) i).length = (dzAt ls i).length := by
  rw [dzMks_at s ls j hi]
  split
  · exact dzMk_length s ls i
  · rfl
theorem dzMks_zero (s : Int) (ls : List (List Du)) : dzMks s ls 0 = ls := by
  apply List.ext_getElem
  · simp [dzMks]
  · intro i h1 h2
    simp [dzMks, dzAt, List.getElem?_eq_getElem h2]
/-- Some cell of one of the lists. -/
def dzHits (vs : List Value) (ls : List (List Du)) (k o : Nat) : Prop := ∃ i, i < ls.length ∧ Hits (dzV vs i) ((dzAt ls i).length * 2) k o
theorem DzV.step {s : Int} {b t : Nat} {w w' : World} {v : Value} {vs : List Value} {ls : List (List Du)} {j : Nat} (h : DzV b t w v vs (dzMks s ls j)) (hj : j < ls.length) (hr : DuIn b t w' (dzV vs j) (dzMk s ls j)) (ht : Turn (Hits (dzV vs j) ((dzAt ls j).length * 2)) w w') :
    DzV b t w' v vs (dzMks s ls (j + 1)) := by
  have hl := dzMks_length s ls j
  have e : ∀ i, i < ls.length → (dzAt (dzMks s ls (j + 1)) i).length = (dzAt (dzMks s ls j) i).length := fun i hi => by rw [dzMks_len s ls _ hi, dzMks_len s ls _ hi]
  refine ⟨?_, by rw [h.len, hl, dzMks_length], fun i hi => ?_, fun i hi => ?_, fun i k x o hi hk hne => ?_, fun i x o hi => ?_⟩
  · have h1 := h.outer
    rw [hl] at h1
    rw [dzMks_length]
    refine h1.turn ht fun k o hh hx => ?_
    rw [← dzMks_len s ls j hj] at hx
    refine h.free j k o (by rw [hl]; exact hj) hx ?_
    rw [hl, ← hl, ← h.len]
    exact hh
  · rw [dzMks_length] at hi
    by_cases hij : i = j
    · subst hij
      rw [dzMks_at s ls _ hi, if_pos (by omega)]
      exact hr
    · have h1 := h.row i (by rw [hl]; exact hi)
      have e2 : dzAt (dzMks s ls (j + 1)) i = dzAt (dzMks s ls j) i := by
        rw [dzMks_at s ls _ hi, dzMks_at s ls _ hi]
        by_cases hlt : i < j
        · rw [if_pos (by omega), if_pos hlt]
        · rw [if_neg (by omega), if_neg hlt]
      rw [e2]
      refine SlIn.turn h1 ht fun k o hh hx => ?_
      rw [ducells_length] at hh
      rw [← dzMks_len s ls j hj] at hx
      exact h.apart i j k o (by rw [hl]; exact hi) (by rw [hl]; exact hj) hij hh hx
  · rw [dzMks_length] at hi
    rw [e i hi]
    exact h.cap i (by rw [hl]; exact hi)
  · rw [dzMks_length] at hi hk
    rw [e i hi, e k hk]
    exact h.apart i k x o (by rw [hl]; exact hi) (by rw [hl]; exact hk) hne
  · rw [dzMks_length] at hi ⊢
    rw [e i hi]
    have := h.free i x o (by rw [hl]; exact hi)
    rw [hl] at this
    exact this

set_option maxHeartbeats 3200000 in
set_option maxRecDepth 100000 in
theorem markDzs (s : Int) (s0 : 0 ≤ s) (s1 : s ≤ 549755813888) (b t : Nat) (v : Value) (vs : List Value) (ls : List (List Du)) (hT : ls.length ≤ 1048576) (hS : dzSum ls ls.length ≤ 1048576) (w : World) (H : Hid (DzV b t w v vs ls)) :
    Calls Try.prog 61 #[v, .int .i64 s] w fun e w' => e = .returned (.int .i64 (s + 2 * (dzSum ls ls.length : Int))) ∧ DzV b t w' v vs (dzMks s ls ls.length) ∧ Turn (dzHits vs ls) w w' := by
  obtain ⟨a, cap, rfl⟩ := H.out.outer.shape
  obtain ⟨len, hlen⟩ : ∃ n, ls.length = n := ⟨_, rfl⟩
  rw [hlen] at hT hS ⊢
  have Hlen : Hid (ls.length = len) := hlen
  have H : Hid (DzV b t w (.slice a len cap) vs ls) := by rw [← hlen]; exact H
  clear hlen
  go_enter Try.func61, Try.ntmps61
  go_wp2
  go_loopw [1, 5] (fun kk i wr => ∃ (j : Nat) (kv : Int), j ≤ len ∧ i = .int .i64 j ∧ kk = .int .i64 kv ∧ Hid (kv = s + 2 * (dzSum ls j : Int)) ∧ Hid (DzV b t wr (.slice a len cap) vs (dzMks s ls j) ∧ Turn (dzHits vs ls) w wr)) (fun _ i _ => len - (intOf i).toNat)
  case atStart => exact ⟨0, s, Nat.zero_le _, rfl, rfl, by show s = s + 2 * ((dzSum ls 0 : Nat) : Int); rw [dzSum_zero]; simp, by rw [dzMks_zero]; exact H.out, Turn.refl _ _⟩
  case round =>
    obtain ⟨j, kv, hj, rfl, rfl, Hkv, H2⟩ := hrel
    by_cases hlt : j < len
    · have hjl : j < ls.length := by rw [Hlen.out]; exact hlt
      have hml := dzMks_length s ls j
      have hout : SlIn b t wr (.slice a len cap) len vs := by
        have := H2.out.1.outer
        rw [hml, Hlen.out] at this
        exact this
      have hne : vs ≠ [] := by
        intro e
        have := H2.out.1.len
        rw [e, hml] at this
        simp at this
        omega
      obtain ⟨g, off, ha, h1, h2, h3⟩ := SlIn.some hout hne
      subst ha
      have hc := (SlIn.cells hout j (by rw [H2.out.1.len]; omega)).1
      have e0 : vs[j]?.getD undef = dzV vs j := by
        unfold dzV
        rw [List.getElem?_eq_getElem (by rw [H2.out.1.len]; omega)]
        rfl
      rw [e0] at hc
      have hs := dzSum_succ hjl
      have hm := dzSum_mono (ls := ls) (i := j + 1) (j := len) (by omega) (by rw [Hlen.out]; exact Nat.le_refl _)
      have k0 : 0 ≤ kv := by have := Hkv.out; omega
      have k1 : kv ≤ 1099511627776 := by have := Hkv.out; omega
      have hrow : DuIn b t wr (dzV vs j) (dzAt ls j) := by
        have := H2.out.1.row j (by rw [hml]; exact hjl)
        rw [dzMks_at s ls j hjl, if_neg (by omega)] at this
        exact this
      have C := markDusG kv k0 k1 b t (dzV vs j) (dzAt ls j) (by omega) wr hrow
      have St : Hid (∀ w', DuIn b t w' (dzV vs j) (duMksF kv (dzAt ls j) (dzAt ls j).length) → Turn (Hits (dzV vs j) ((dzAt ls j).length * 2)) wr w' → DzV b t w' (.slice (some ⟨g, off, none⟩) len cap) vs (dzMks s ls (j + 1)) ∧ Turn (dzHits vs ls) w w') := fun w' q1 q2 => by
        rw [Hkv.out] at q1
        exact ⟨H2.out.1.step hjl q1 q2, H2.out.2.trans (q2.wide fun k o hh => ⟨j, hjl, hh⟩)⟩
      have Hs : Hid (dzSum ls (j + 1) = dzSum ls j + (dzAt ls j).length) := hs
      generalize duMksF kv (dzAt ls j) (dzAt ls j).length = ml at C St
      obtain ⟨i1, c1, ev, -⟩ := H2.out.1.cap j (by rw [hml]; exact hjl)
      rw [dzMks_len s ls j hjl] at ev
      rw [ev] at hc
      rw [ev] at C St
      generalize (dzAt ls j).length = n at C St Hs hc ev
      clear hrow e0 h1 h2 h3 hs hm ev hne hout
      have hlt' : (j : Int) < (len : Int) := by omega
      go_wp2_with fail
      refine C.mono ?_
      rintro e w2 ⟨rfl, q1, q2⟩
      have H3 : Hid (DzV b t w2 (.slice (some ⟨g, off, none⟩) len cap) vs (dzMks s ls (j + 1)) ∧ Turn (dzHits vs ls) w w2) := St.out w2 q1 q2
      clear q1 q2 hc St C
      go_wp2
      go_roundw
      case rel =>
        refine ⟨j + 1, _, by omega, by go_num, rfl, ?_, H3⟩
        show _ = s + 2 * ((dzSum ls (j + 1) : Nat) : Int)
        rw [Hs.out, Hkv.out]
        push_cast
        omega
      case measure => simp [intOf]; omega
    · obtain rfl : j = len := by omega
      go_wp2
      go_ret
      exact ⟨by rw [← Hkv.out]; rfl, H2.out⟩

set_option maxHeartbeats 3200000 in
set_option maxRecDepth 100000 in
theorem heldDzs (s : Int) (s0 : 0 ≤ s) (s1 : s ≤ 549755813888) (a : Option Addr) (cap : Nat) (ls : List (List Du)) (hT : ls.length ≤ 1048576) (hS : dzSum ls ls.length ≤ 1048576) (w : World) (H : Hid (DzAt w a (dzMks s ls ls.length))) :
    Calls Try.prog 62 #[.slice a ls.length cap, .int .i64 s] w fun e w' => e = .returned (.int .i64 (s + 2 * (dzSum ls ls.length : Int))) ∧ w' = w := by
  obtain ⟨len, hlen⟩ : ∃ n, ls.length = n := ⟨_, rfl⟩
  rw [hlen] at hT hS H ⊢
  have Hlen : Hid (ls.length = len) := hlen
  clear hlen
  go_enter Try.func62, Try.ntmps62
  go_wp2
  go_loop [1, 5] (fun kk i => ∃ (j : Nat) (kv : Int), j ≤ len ∧ i = .int .i64 j ∧ kk = .int .i64 kv ∧ Hid (kv = s + 2 * (dzSum ls j : Int))) (fun _ i => len - (intOf i).toNat)
  case atStart => exact ⟨0, s, Nat.zero_le _, rfl, rfl, by show s = s + 2 * ((dzSum ls 0 : Nat) : Int); rw [dzSum_zero]; simp⟩
  case round =>
    obtain ⟨j, kv, hj, rfl, rfl, Hkv⟩ := hrel
    by_cases hlt : j < len
    · have hjl : j < ls.length := by rw [Hlen.out]; exact hlt
      obtain ⟨g, off, i1, c1, ha, hb, hc, hr, -⟩ := H.out j (by rw [dzMks_length]; exact hjl)
      subst ha
      rw [dzMks_at s ls _ hjl, if_pos hlt] at hc hr
      rw [dzMk_length] at hc
      have hs := dzSum_succ hjl
      have hm := dzSum_mono (ls := ls) (i := j + 1) (j := len) (by omega) (by rw [Hlen.out]; exact Nat.le_refl _)
      have k0 : 0 ≤ kv := by have := Hkv.out; omega
      have k1 : kv ≤ 1099511627776 := by have := Hkv.out; omega
      unfold dzMk at hr
      rw [← Hkv.out] at hr
      have C := heldDusF kv k0 k1 i1 c1 (dzAt ls j) (by omega) w hr
      have Hs : Hid (dzSum ls (j + 1) = dzSum ls j + (dzAt ls j).length) := hs
      generalize (dzAt ls j).length = n at C Hs hc hs
      have k2 : ¬ kv + 2 * (n : Int) < 0 := by omega
      clear hr hm hs
      have hlt' : (j : Int) < (len : Int) := by omega
      go_wp2_with fail
      refine C.mono ?_
      rintro e w2 ⟨rfl, hw⟩
      have hw := hw.symm
      subst hw
      generalize hkn : kv + 2 * (n : Int) = kn at k2 ⊢
      have Hkn : Hid (kn = kv + 2 * (n : Int)) := hkn.symm
      clear hkn
      go_wp2
      go_round
      case rel =>
        refine ⟨j + 1, _, by omega, by go_num, rfl, ?_⟩
        show _ = s + 2 * ((dzSum ls (j + 1) : Nat) : Int)
        rw [Hs.out, Hkn.out, Hkv.out]
        push_cast
        omega
      case measure => simp [intOf]; omega
    · obtain rfl : j = len := by omega
      go_wp2
      go_ret
      exact ⟨by rw [← Hkv.out]; rfl, rfl⟩
end Go.Proofs.Ytgimalimfmoilaa
