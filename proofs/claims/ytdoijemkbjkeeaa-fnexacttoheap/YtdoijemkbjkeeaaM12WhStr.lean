import Derived.Test.YtdoijemkbjkeeaaM0DzPlain
import Derived.Test.YtdoijemkbjkeeaaM9DuMarkG
import Derived.Test.YtdoijemkbjkeeaaM3WhFn
import Derived.Test.YtdoijemkbjkeeaaM11DzTo
import Derived.Test.YtdoijemkbjkeeaaM10DuW
import Derived.Test.YtdoijemkbjkeeaaStepRow
import Derived.Laws.ResultCell
import Derived.Laws.CopyOwn
/-
  What the laws do to see whose memory lists of lists of records (Due) are: numbers put into them and looked for again. By the verifier, by program.
-/
namespace Go.Proofs.Ytdoijemkbjkeeaa
open Go.RowKit

/-- The list at a place with its numbers, which begin at s in the first one. -/
def dzMk (s : Int) (ls : List (List Du)) (i : Nat) : List Du := duMksF (s + 2 * (dzSum ls i : Int)) (dzAt ls i) (dzAt ls i).length
/-- The first j of them with their numbers. -/
def dzMks (s : Int) (ls : List (List Du)) (j : Nat) : List (List Du) := (List.range ls.length).map fun i => if i < j then dzMk s ls i else dzAt ls i
theorem dzMks_length (s : Int) (ls : List (List Du)) (j : Nat) : (dzMks s ls j).length = ls.length := by simp [dzMks]
theorem dzMks_at (s : Int) (ls : List (List Du)) (j : Nat) {i : Nat} (hi : i < ls.length) : dzAt (dzMks s ls j) i = if i < j then dzMk s ls i else dzAt ls i := by
  simp [dzAt, dzMks, hi]
theorem dzMk_length (s : Int) (ls : List (List Du)) (i : Nat) : (dzMk s ls i).length = (dzAt ls i).length := duMksF_length _ _ _ (Nat.le_refl _)
theorem dzMks_len (s : Int) (ls : List (List Du)) (j : Nat) {i : Nat} (hi : i < ls.length) : (dzAt (dzMks s ls j) i).length = (dzAt ls i).length := by
  rw [dzMks_at s ls j hi]
  split
  · exact dzMk_length s ls i
  · rfl
theorem dzMks_zero (s : Int) (ls : List (List Du)) : dzMks s ls 0 = ls := by
  apply List.ext_getElem
  · simp [dzMks]
  · intro i h1 h2
    simp [dzMks, dzAt, List.getElem?_eq_getElem h2]
/-- Some cell of one of the lists. -/
def dzHits (vs : List Value) (ls : List (List Du)) (k o : Nat) : Prop := ∃ i, i < ls.length ∧ Hits (dzV vs i) ((dzAt ls i).length * 2) k o
theorem DzV.step {s : Int} {b t : Nat} {w w' : World} {v : Value} {vs : List Value} {ls : List (List Du)} {j : Nat} (h : DzV b t w v vs (dzMks s ls j)) (hj : j < ls.length) (hr : DuIn b t w' (dzV vs j) (dzMk s ls j)) (ht : Turn (Hits (dzV vs j) ((dzAt ls j).length * 2)) w w') :
    DzV b t w' v vs (dzMks s ls (j + 1)) := by
  have hl := dzMks_length s ls j
  have e : ∀ i, i < ls.length → (dzAt (dzMks s ls (j + 1)) i).length = (dzAt (dzMks s ls j) i).length := fun i hi => by rw [dzMks_len s ls _ hi, dzMks_len s ls _ hi]
  refine ⟨?_, by rw [h.len, hl, dzMks_length], fun i hi => ?_, fun i hi => ?_, fun i k x o hi hk hne => ?_, fun i x o hi => ?_⟩
  · have h1 := h.outer
    rw [hl] at h1
    rw [dzMks_length]
    refine h1.turn ht fun k o hh hx => ?_
    rw [← dzMks_len s ls j hj] at hx
    refine h.free j k o (by rw [hl]; exact hj) hx ?_
    rw [hl, ← hl, ← h.len]
    exact hh
  · rw [dzMks_length] at hi
    by_cases hij : i = j
    · subst hij
      rw [dzMks_at s ls _ hi, if_pos (by omega)]
      exact hr
    · have h1 := h.row i (by rw [hl]; exact hi)
      have e2 : dzAt (dzMks s ls (j + 1)) i = dzAt (dzMks s ls j) i := by
        rw [dzMks_at s ls _ hi, dzMks_at s ls _ hi]
        by_cases hlt : i < j
        · rw [if_pos (by omega), if_pos hlt]
        · rw [if_neg (by omega), if_neg hlt]
      rw [e2]
      refine SlIn.turn h1 ht fun k o hh hx => ?_
      rw [ducells_length] at hh
      rw [← dzMks_len s ls j hj] at hx
      exact h.apart i j k o (by rw [hl]; exact hi) (by rw [hl]; exact hj) hij hh hx
  · rw [dzMks_length] at hi
    rw [e i hi]
    exact h.cap i (by rw [hl]; exact hi)
  · rw [dzMks_length] at hi hk
    rw [e i hi, e k hk]
    exact h.apart i k x o (by rw [hl]; exact hi) (by rw [hl]; exact hk) hne
  · rw [dzMks_length] at hi ⊢
    rw [e i hi]
    have := h.free i x o (by rw [hl]; exact hi)
    rw [hl] at this
    exact this

set_option maxHeartbeats 3200000 in
set_option maxRecDepth 100000 in
theorem markDzs (s : Int) (s0 : 0 ≤ s) (s1 : s ≤ 549755813888) (b t : Nat) (v : Value) (vs : List Value) (ls : List (List Du)) (hT : ls.length ≤ 1048576) (hS : dzSum ls ls.length ≤ 1048576) (w : World) (H : Hid (DzV b t w v vs ls)) :
    Calls Try.prog 39 #[v, .int .i64 s] w fun e w' => e = .returned (.int .i64 (s + 2 * (dzSum ls ls.length : Int))) ∧ DzV b t w' v vs (dzMks s ls ls.length) ∧ Turn (dzHits vs ls) w w' := by
  obtain ⟨a, cap, rfl⟩ := H.out.outer.shape
  obtain ⟨len, hlen⟩ : ∃ n, ls.length = n := ⟨_, rfl⟩
  rw [hlen] at hT hS ⊢
  have Hlen : Hid (ls.length = len) := hlen
  have H : Hid (DzV b t w (.slice a len cap) vs ls) := by rw [← hlen]; exact H
  clear hlen
  go_enter Try.func39, Try.ntmps39
  go_wp2
  go_loopw [1, 5] (fun kk i wr => ∃ (j : Nat) (kv : Int), j ≤ len ∧ i = .int .i64 j ∧ kk = .int .i64 kv ∧ Hid (kv = s + 2 * (dzSum ls j : Int)) ∧ Hid (DzV b t wr (.slice a len cap) vs (dzMks s ls j) ∧ Turn (dzHits vs ls) w wr)) (fun _ i _ => len - (intOf i).toNat)
  case atStart => exact ⟨0, s, Nat.zero_le _, rfl, rfl, by show s = s + 2 * ((dzSum ls 0 : Nat) : Int); rw [dzSum_zero]; simp, by rw [dzMks_zero]; exact H.out, Turn.refl _ _⟩
  case round =>
    obtain ⟨j, kv, hj, rfl, rfl, Hkv, H2⟩ := hrel
    by_cases hlt : j < len
    · have hjl : j < ls.length := by rw [Hlen.out]; exact hlt
      have hml := dzMks_length s ls j
      have hout : SlIn b t wr (.slice a len cap) len vs := by
        have := H2.out.1.outer
        rw [hml, Hlen.out] at this
        exact this
      have hne : vs ≠ [] := by
        intro e
        have := H2.out.1.len
        rw [e, hml] at this
        simp at this
        omega
      obtain ⟨g, off, ha, h1, h2, h3⟩ := SlIn.some hout hne
      subst ha
      have hc := (SlIn.cells hout j (by rw [H2.out.1.len]; omega)).1
      have e0 : vs[j]?.getD undef = dzV vs j := by
        unfold dzV
        rw [List.getElem?_eq_getElem (by rw [H2.out.1.len]; omega)]
        rfl
      rw [e0] at hc
      have hs := dzSum_succ hjl
      have hm := dzSum_mono (ls := ls) (i := j + 1) (j := len) (by omega) (by rw [Hlen.out]; exact Nat.le_refl _)
      have k0 : 0 ≤ kv := by have := Hkv.out; omega
      have k1 : kv ≤ 1099511627776 := by have := Hkv.out; omega
      have hrow : DuIn b t wr (dzV vs j) (dzAt ls j) := by
        have := H2.out.1.row j (by rw [hml]; exact hjl)
        rw [dzMks_at s ls j hjl, if_neg (by omega)] at this
        exact this
      have C := markDusG kv k0 k1 b t (dzV vs j) (dzAt ls j) (by omega) wr hrow
      have St : Hid (∀ w', DuIn b t w' (dzV vs j) (duMksF kv (dzAt ls j) (dzAt ls j).length) → Turn (Hits (dzV vs j) ((dzAt ls j).length * 2)) wr w' → DzV b t w' (.slice (some ⟨g, off, none⟩) len cap) vs (dzMks s ls (j + 1)) ∧ Turn (dzHits vs ls) w w') := fun w' q1 q2 => by
        rw [Hkv.out] at q1
        exact ⟨H2.out.1.step hjl q1 q2, H2.out.2.trans (q2.wide fun k o hh => ⟨j, hjl, hh⟩)⟩
      have Hs : Hid (dzSum ls (j + 1) = dzSum ls j + (dzAt ls j).length) := hs
      generalize duMksF kv (dzAt ls j) (dzAt ls j).length = ml at C St
      obtain ⟨i1, c1, ev, -⟩ := H2.out.1.cap j (by rw [hml]; exact hjl)
      rw [dzMks_len s ls j hjl] at ev
      rw [ev] at hc
      rw [ev] at C St
      generalize (dzAt ls j).length = n at C St Hs hc ev
      clear hrow e0 h1 h2 h3 hs hm ev hne hout
      have hlt' : (j : Int) < (len : Int) := by omega
      go_wp2_with fail
      refine C.mono ?_
      rintro e w2 ⟨rfl, q1, q2⟩
      have H3 : Hid (DzV b t w2 (.slice (some ⟨g, off, none⟩) len cap) vs (dzMks s ls (j + 1)) ∧ Turn (dzHits vs ls) w w2) := St.out w2 q1 q2
      clear q1 q2 hc St C
      go_wp2
      go_roundw
      case rel =>
        refine ⟨j + 1, _, by omega, by go_num, rfl, ?_, H3⟩
        show _ = s + 2 * ((dzSum ls (j + 1) : Nat) : Int)
        rw [Hs.out, Hkv.out]
        push_cast
        omega
      case measure => simp [intOf]; omega
    · obtain rfl : j = len := by omega
      go_wp2
      go_ret
      exact ⟨by rw [← Hkv.out]; rfl, H2.out⟩

set_option maxHeartbeats 3200000 in
set_option maxRecDepth 100000 in
theorem heldDzs (s : Int) (s0 : 0 ≤ s) (s1 : s ≤ 549755813888) (a : Option Addr) (cap : Nat) (ls : List (List Du)) (hT : ls.length ≤ 1048576) (hS : dzSum ls ls.length ≤ 1048576) (w : World) (H : Hid (DzAt w a (dzMks s ls ls.length))) :
    Calls Try.prog 40 #[.slice a ls.length cap, .int .i64 s] w fun e w' => e = .returned (.int .i64 (s + 2 * (dzSum ls ls.length : Int))) ∧ w' = w := by
  obtain ⟨len, hlen⟩ : ∃ n, ls.length = n := ⟨_, rfl⟩
  rw [hlen] at hT hS H ⊢
  have Hlen : Hid (ls.length = len) := hlen
  clear hlen
  go_enter Try.func40, Try.ntmps40
  go_wp2
  go_loop [1, 5] (fun kk i => ∃ (j : Nat) (kv : Int), j ≤ len ∧ i = .int .i64 j ∧ kk = .int .i64 kv ∧ Hid (kv = s + 2 * (dzSum ls j : Int))) (fun _ i => len - (intOf i).toNat)
  case atStart => exact ⟨0, s, Nat.zero_le _, rfl, rfl, by show s = s + 2 * ((dzSum ls 0 : Nat) : Int); rw [dzSum_zero]; simp⟩
  case round =>
    obtain ⟨j, kv, hj, rfl, rfl, Hkv⟩ := hrel
    by_cases hlt : j < len
    · have hjl : j < ls.length := by rw [Hlen.out]; exact hlt
      obtain ⟨g, off, i1, c1, ha, hb, hc, hr, -⟩ := H.out j (by rw [dzMks_length]; exact hjl)
      subst ha
      rw [dzMks_at s ls _ hjl, if_pos hlt] at hc hr
      rw [dzMk_length] at hc
      have hs := dzSum_succ hjl
      have hm := dzSum_mono (ls := ls) (i := j + 1) (j := len) (by omega) (by rw [Hlen.out]; exact Nat.le_refl _)
      have k0 : 0 ≤ kv := by have := Hkv.out; omega
      have k1 : kv ≤ 1099511627776 := by have := Hkv.out; omega
      unfold dzMk at hr
      rw [← Hkv.out] at hr
      have C := heldDusF kv k0 k1 i1 c1 (dzAt ls j) (by omega) w hr
      have Hs : Hid (dzSum ls (j + 1) = dzSum ls j + (dzAt ls j).length) := hs
      generalize (dzAt ls j).length = n at C Hs hc hs
      have k2 : ¬ kv + 2 * (n : Int) < 0 := by omega
      clear hr hm hs
      have hlt' : (j : Int) < (len : Int) := by omega
      go_wp2_with fail
      refine C.mono ?_
      rintro e w2 ⟨rfl, hw⟩
      have hw := hw.symm
      subst hw
      generalize hkn : kv + 2 * (n : Int) = kn at k2 ⊢
      have Hkn : Hid (kn = kv + 2 * (n : Int)) := hkn.symm
      clear hkn
      go_wp2
      go_round
      case rel =>
        refine ⟨j + 1, _, by omega, by go_num, rfl, ?_⟩
        show _ = s + 2 * ((dzSum ls (j + 1) : Nat) : Int)
        rw [Hs.out, Hkn.out, Hkv.out]
        push_cast
        omega
      case measure => simp [intOf]; omega
    · obtain rfl : j = len := by omega
      go_wp2
      go_ret
      exact ⟨by rw [← Hkv.out]; rfl, rfl⟩
end Go.Proofs.Ytdoijemkbjkeeaa

/-
  A record of a number and a list (Wheel): the laws' copies, sizes, comparisons, marks. By the verifier, by program.
-/
namespace Go.Proofs.Ytdoijemkbjkeeaa
open Go.RowKit

/-- With its numbers put in. -/
def Wh.mk' (s : Int) (r : Wh) : Wh := ⟨r.step, dzMks s r.slots r.slots.length⟩
set_option maxHeartbeats 1600000 in
theorem szWhs (L : Int) (h0 : 0 ≤ L) (h1 : L ≤ 1048576) (r : Wh) (a : Option Addr) (c : Nat) (w : World) (hl : (r.slots.length : Int) ≤ 9223372036854775807) (hin : Hid (∀ k, k < r.slots.length → ((dzAt r.slots k).length : Int) ≤ 9223372036854775807)) (h : Hid (DzAt w a r.slots)) :
    Calls Try.prog 6 #[r.val a c, .int .i64 L] w fun e w' => e = .returned (.int .i64 (if L - (r.big : Nat) < 0 then -1 else L - (r.big : Nat))) ∧ Below w.heap.size w w' := by
  have C := fun w h => szDzs L h0 h1 a c r.slots w hl hin h
  rw [show r.slots.length + dzSum r.slots r.slots.length = r.big from rfl] at C
  generalize r.big = B at C ⊢
  unfold Wh.val
  have X : Hid (DzAt (w.alloc (.cells #[.int .i64 r.step, .slice a r.slots.length c] 24)) a r.slots ∧ Below w.heap.size w (w.alloc (.cells #[.int .i64 r.step, .slice a r.slots.length c] 24))) := ⟨h.out.alloc _, (Below.refl _ _).alloc (Nat.le_refl _) _⟩
  generalize r.slots.length = n at C X ⊢
  generalize r.step = f at X ⊢
  have C' : Hid _ := C
  clear C
  by_cases hn : L - (B : Nat) < 0
  · rw [if_pos hn] at C' ⊢
    go_enter Try.func6, Try.ntmps6
    go_wp2_with fail
    refine (C'.out _ X.out.1).mono ?_
    rintro e w' ⟨rfl, rfl⟩
    go_wp2
    go_ret
    exact ⟨rfl, X.out.2⟩
  · rw [if_neg hn] at C' ⊢
    have hn' : ¬ L - (B : Int) < 0 := hn
    go_enter Try.func6, Try.ntmps6
    go_wp2_with fail
    refine (C'.out _ X.out.1).mono ?_
    rintro e w' ⟨rfl, rfl⟩
    go_wp2
    go_ret
    exact ⟨rfl, X.out.2⟩

set_option maxHeartbeats 1600000 in
set_option maxRecDepth 100000 in
theorem toWhs (r : Wh) (a : Option Addr) (c : Nat) (w : World) (hB : r.big ≤ 1048576) (h : Hid (DzAt w a r.slots)) :
    Calls Try.prog 8 #[r.val a c] w fun e w' => (∃ v, e = .returned v ∧ WhIn w.heap.size w'.heap.size w' v r) ∧ Below w.heap.size w w' := by
  obtain ⟨hT, -, hin⟩ := Wh.small hB
  have T := fun w h => toDzs a c r.slots w hT hin h
  obtain ⟨f, l⟩ := r
  simp only [Wh.val] at T h ⊢
  clear hin hT hB
  obtain ⟨n, hn⟩ : ∃ n, l.length = n := ⟨_, rfl⟩
  have Hn : Hid (l.length = n) := hn
  rw [hn] at T ⊢
  clear hn
  have T' : Hid _ := T
  clear T
  obtain ⟨W, hW⟩ : ∃ W, W = ((w.alloc (.cells #[.int .i64 f, .slice a n c] 24)).alloc (.cells #[.int .i64 0, .slice none 0 0] 30)).alloc (.cells #[.int .i64 f, .slice none 0 0] 30) := ⟨_, rfl⟩
  have X : Hid (DzAt W a l ∧ Below w.heap.size w W ∧ Boxed W (w.heap.size + 1) #[.int .i64 0, .slice none 0 0] 30 ∧ Boxed W (w.heap.size + 2) #[.int .i64 f, .slice none 0 0] 30 ∧ w.heap.size + 3 = W.heap.size) := by
    rw [hW]
    refine ⟨((h.out.alloc _).alloc _).alloc _, (((Below.refl _ _).alloc (Nat.le_refl _) _).alloc (by simp) _).alloc (by simp; omega) _, ?_, ?_, by simp⟩
    · have := (Boxed.new (w.alloc (.cells #[.int .i64 f, .slice a n c] 24)) #[.int .i64 0, .slice none 0 0] 30).more (.cells #[.int .i64 f, .slice none 0 0] 30)
      simpa using this
    · have := Boxed.new ((w.alloc (.cells #[.int .i64 f, .slice a n c] 24)).alloc (.cells #[.int .i64 0, .slice none 0 0] 30)) #[.int .i64 f, .slice none 0 0] 30
      simpa using this
  have HW : Hid (W = _) := hW
  clear hW h
  go_enter Try.func8, Try.ntmps8
  go_wp2_with fail
  rw [← HW.out]
  refine (T'.out _ X.out.1).mono ?_
  rintro e w1 ⟨g, rfl, q1, q2⟩
  have hz := X.out.2.2.2.2
  have X1 : Hid (Below w.heap.size w w1 ∧ Boxed w1 (w.heap.size + 1) #[.int .i64 0, .slice none 0 0] 30 ∧ Boxed w1 (w.heap.size + 2) #[.int .i64 f, .slice none 0 0] 30 ∧ DzIn W.heap.size w1.heap.size w1 (.slice (some ⟨g, 0, none⟩) n n) l ∧ w.heap.size + 3 ≤ w1.heap.size ∧ w.heap.size + 3 = W.heap.size) :=
    ⟨X.out.2.1.trans (q2.mono X.out.2.1.size), X.out.2.2.1.below (by omega) q2, X.out.2.2.2.1.below (by omega) q2, q1, by have := q2.size; omega, hz⟩
  have X2 : Hid (Boxed (w1.setCell ⟨w.heap.size + 2, 1, none⟩ (.slice (some ⟨g, 0, none⟩) n n)) (w.heap.size + 1) #[.int .i64 0, .slice none 0 0] 30 ∧ Boxed (w1.setCell ⟨w.heap.size + 2, 1, none⟩ (.slice (some ⟨g, 0, none⟩) n n)) (w.heap.size + 2) #[.int .i64 f, .slice (some ⟨g, 0, none⟩) n n] 30) :=
    ⟨X1.out.2.1.far (by omega) _ _, X1.out.2.2.1.put 1 _⟩
  have d1 : w1.cell? ⟨w.heap.size + 2, 1, none⟩ = some (.slice none 0 0) := X1.out.2.2.1.cell 1 rfl
  have z1 := X1.out.2.2.1.ice 1
  clear q1 q2 X hz
  go_wp2_with (first | (refine wpList_load_row rfl 30 (.tmp 3) rfl (w.heap.size + 2) rfl _ _ _ _ X2.out.2 Try.underlying30 rfl (by kernel_rfl) ?_) | (refine wpList_store_row rfl 30 (.tmp 2) (.tmp 11) rfl (w.heap.size + 1) _ rfl rfl _ _ X2.out.1 (by kernel_rfl) rfl (by simp [Value.oneCell']) ?_))
  have hB : ∀ k, k ≠ w.heap.size + 1 → k ≠ w.heap.size + 2 → ((w1.setCell ⟨w.heap.size + 2, 1, none⟩ (.slice (some ⟨g, 0, none⟩) n n)).setRow (w.heap.size + 1) #[.int .i64 f, .slice (some ⟨g, 0, none⟩) n n]).heap[k]? = w1.heap[k]? := fun k h1 h2 => by
    rw [setRow_other _ _ _ _ h1]
    exact Below.heap_setCell _ _ _ _ h2
  have hS : ((w1.setCell ⟨w.heap.size + 2, 1, none⟩ (.slice (some ⟨g, 0, none⟩) n n)).setRow (w.heap.size + 1) #[.int .i64 f, .slice (some ⟨g, 0, none⟩) n n]).heap.size = w1.heap.size := by
    rw [size_setRow]
    simp [World.setCell]
  refine bodyPost_ret (results_cell_row Try.results8 _ _ (w.heap.size + 1) _ _ _ _ rfl (setRow_heap _ (w.heap.size + 1) _ _ _ _ X2.out.1) Try.underlying30 rfl (by kernel_rfl)) rfl ⟨⟨_, rfl, some ⟨g, 0, none⟩, n, by show _ = Value.agg #[_, .slice _ l.length _]; rw [Hn.out], ?_⟩, below_setRow (X1.out.1.setCell (by show w.heap.size ≤ w.heap.size + 2; omega) _) (by omega) _⟩
  rw [hS]
  show DzIn _ _ _ (.slice _ l.length _) l
  rw [Hn.out]
  have q := X1.out.2.2.2.1
  have e := X1.out.2.2.2.2.2
  exact (q.keep (by rw [hS]; exact Nat.le_refl _) fun k h1 h2 => hB k (by omega) (by omega)).wide (by omega) (Nat.le_refl _) (by rw [hS]; exact Nat.le_refl _)

set_option maxHeartbeats 1600000 in
theorem eqWhs (v1 v2 : Value) (r : Wh) (w : World) (hB : r.big ≤ 1048576) (h1 : Hid (WhAt w v1 r)) (h2 : Hid (WhAt w v2 r)) :
    Calls Try.prog 11 #[v1, v2] w fun e w' => e = .returned (.bool true) ∧ Below w.heap.size w w' := by
  obtain ⟨a1, c1, rfl, k1⟩ := h1.out
  obtain ⟨a2, c2, rfl, k2⟩ := h2.out
  obtain ⟨hT, -, hin⟩ := Wh.small hB
  have E := fun w h1 h2 => eqDzs a1 a2 c1 c2 r.slots w hT hin h1 h2
  clear h1 h2 hin hT hB
  obtain ⟨f, l⟩ := r
  simp only [Wh.val] at E k1 k2 ⊢
  generalize l.length = n at E ⊢
  have E' : Hid _ := E
  clear E
  have X : Hid (DzAt ((w.alloc (.cells #[.int .i64 f, .slice a1 n c1] 30)).alloc (.cells #[.int .i64 f, .slice a2 n c2] 30)) a1 l ∧ DzAt ((w.alloc (.cells #[.int .i64 f, .slice a1 n c1] 30)).alloc (.cells #[.int .i64 f, .slice a2 n c2] 30)) a2 l ∧ Below w.heap.size w ((w.alloc (.cells #[.int .i64 f, .slice a1 n c1] 30)).alloc (.cells #[.int .i64 f, .slice a2 n c2] 30))) :=
    ⟨(k1.alloc _).alloc _, (k2.alloc _).alloc _, ((Below.refl _ _).alloc (Nat.le_refl _) _).alloc (by simp) _⟩
  clear k1 k2
  go_enter Try.func11, Try.ntmps11
  go_wp2_with fail
  refine (E'.out _ X.out.1 X.out.2.1).mono ?_
  rintro e w1 ⟨rfl, q⟩
  have X1 : Hid (Below w.heap.size w w1) := X.out.2.2.trans (q.mono X.out.2.2.size)
  clear q
  go_wp2
  go_ret
  exact ⟨rfl, X1.out⟩

set_option maxHeartbeats 1600000 in
theorem markWhs (s : Int) (s0 : 0 ≤ s) (s1 : s ≤ 549755813888) (b t : Nat) (v : Value) (r : Wh) (w : World) (hB : r.big ≤ 1048576) (H : Hid (WhIn b t w v r)) :
    Calls Try.prog 12 #[v, .int .i64 s] w fun e w' => e = .returned (.int .i64 (s + 2 * (dzSum r.slots r.slots.length : Int))) ∧ WhIn b t w' v (r.mk' s) ∧ Span b t w w' := by
  obtain ⟨a, c, rfl, vs, H⟩ := H.out
  obtain ⟨hT, hS, -⟩ := Wh.small hB
  have C := fun w h => markDzs s s0 s1 b t (.slice a r.slots.length c) vs r.slots hT hS w h
  have Fin : Hid (∀ w', DzV b t w' (.slice a r.slots.length c) vs (dzMks s r.slots r.slots.length) → WhIn b t w' (r.val a c) (r.mk' s)) := fun w' h => ⟨a, c, by simp [Wh.val, Wh.mk', dzMks_length], vs, by simp only [Wh.mk', dzMks_length]; exact h⟩
  have Sp : Hid (∀ w1 w', DzV b t w1 (.slice a r.slots.length c) vs r.slots → Turn (dzHits vs r.slots) w1 w' → Span b t w1 w') := fun w1 w' h g => Span.of_turn g fun k o hh => by
    obtain ⟨i, hi, hh⟩ := hh
    have := SlIn.in (h.row i hi) (k := k) (o := o)
    rw [ducells_length] at this
    exact this hh
  generalize r.mk' s = r' at Fin ⊢
  generalize (dzSum r.slots r.slots.length : Int) = N at C ⊢
  obtain ⟨f, l⟩ := r
  simp only [Wh.val] at C Fin Sp H ⊢
  generalize dzMks s l l.length = l' at C Fin
  generalize l.length = n at C Fin Sp H ⊢
  have C' : Hid _ := C
  have X : Hid (DzV b t (w.alloc (.cells #[.int .i64 f, .slice a n c] 30)) (.slice a n c) vs l ∧ Below w.heap.size w (w.alloc (.cells #[.int .i64 f, .slice a n c] 30))) := ⟨H.below ((Below.refl _ _).alloc (Nat.le_refl _) _), (Below.refl _ _).alloc (Nat.le_refl _) _⟩
  clear C H hT hS hB
  go_enter Try.func12, Try.ntmps12
  go_wp2_with fail
  refine (C'.out _ X.out.1).mono ?_
  rintro e w1 ⟨rfl, q1, q2⟩
  have X1 : Hid (WhIn b t w1 (.agg #[.int .i64 f, .slice a n c]) r' ∧ Span b t w w1) := ⟨Fin.out _ q1, (Span.of_below X.out.2).trans (Sp.out _ _ X.out.1 q2)⟩
  clear q1 q2 X Fin Sp C'
  go_wp2
  go_ret
  exact ⟨rfl, X1.out⟩

set_option maxHeartbeats 1600000 in
theorem heldWhs (s : Int) (s0 : 0 ≤ s) (s1 : s ≤ 549755813888) (v : Value) (r : Wh) (w : World) (hB : r.big ≤ 1048576) (H : Hid (WhAt w v (r.mk' s))) :
    Calls Try.prog 13 #[v, .int .i64 s] w fun e w' => e = .returned (.int .i64 (s + 2 * (dzSum r.slots r.slots.length : Int))) ∧ Below w.heap.size w w' := by
  obtain ⟨a, c, rfl, K⟩ := H.out
  obtain ⟨hT, hS, -⟩ := Wh.small hB
  have C := fun w h => heldDzs s s0 s1 a c r.slots hT hS w h
  have h0 : ¬ s + 2 * (dzSum r.slots r.slots.length : Int) < 0 := by omega
  have hlen : (r.mk' s).slots.length = r.slots.length := by simp [Wh.mk', dzMks_length]
  unfold Wh.val
  rw [hlen]
  have Hx : DzAt w a (dzMks s r.slots r.slots.length) := K
  have hf : (r.mk' s).step = r.step := rfl
  rw [hf]
  clear H K hlen hf
  generalize dzMks s r.slots r.slots.length = l' at C Hx
  generalize hN : s + 2 * (dzSum r.slots r.slots.length : Int) = N at C h0 ⊢
  generalize r.slots.length = n at C ⊢
  generalize r.step = f
  have C' : Hid _ := C
  have X : Hid (DzAt (w.alloc (.cells #[.int .i64 f, .slice a n c] 30)) a l' ∧ Below w.heap.size w (w.alloc (.cells #[.int .i64 f, .slice a n c] 30))) := ⟨Hx.alloc _, (Below.refl _ _).alloc (Nat.le_refl _) _⟩
  clear C Hx hT hS hB hN
  go_enter Try.func13, Try.ntmps13
  go_wp2_with fail
  refine (C'.out _ X.out.1).mono ?_
  rintro e w1 ⟨rfl, rfl⟩
  go_wp2
  go_ret
  exact ⟨rfl, X.out.2⟩
end Go.Proofs.Ytdoijemkbjkeeaa
