import Derived.Test.YtgebghkcikmfaaaGreatDoorQJ2RuMatch
import Derived.Test.YtgebghkcikmfaaaGreatDoorQJ38RuDel
import Derived.Test.YtgebghkcikmfaaaGreatDoorQJ17RegList
import Derived.Laws.ResultCell
import Derived.Laws.CopyOwn
import Derived.Handy
import Derived.Test.YtgebghkcikmfaaaGreatDoorQJ0NumUp
import Derived.BigQuiet
import Derived.Test.YtgebghkcikmfaaaGreatDoorQJ19RtOkS
import Derived.Test.YtgebghkcikmfaaaGreatDoorQJ39RuMat
import Derived.Test.YtgebghkcikmfaaaGreatDoorQJ11GtFacts
/-
  Parts of lists of routes. By the verifier.
-/
namespace Go.Proofs.YtgebghkcikmfaaaGreatDoor
open Go.RowKit

theorem rts_take {w : World} {a : Option Addr} {l : List Rt} (h : RtsAt w a l) (k : Nat) : RtsAt w a (l.take k) := by
  intro i hi
  have hi' : i < l.length := by simp at hi; omega
  have hk : i < k := by simp at hi; omega
  obtain ⟨b, off, e, hb, c⟩ := h i hi'
  have er : rtAt (l.take k) i = rtAt l i := by simp [rtAt, hk]
  rw [er]
  exact ⟨b, off, e, hb, c⟩
theorem rts_drop {w : World} {b off : Nat} {l : List Rt} (h : RtsAt w (some ⟨b, off, none⟩) l) (k : Nat) : RtsAt w (some ⟨b, off + k * 3, none⟩) (l.drop k) := by
  intro i hi
  have hi' : k + i < l.length := by simp at hi; omega
  obtain ⟨b', off', e, hb, c⟩ := h (k + i) hi'
  cases e
  have er : rtAt (l.drop k) i = rtAt l (k + i) := by simp [rtAt]
  rw [er]
  refine ⟨b, off + k * 3, rfl, hb, ?_⟩
  rw [show off + k * 3 + i * 3 = off + (k + i) * 3 by omega]
  exact c
end Go.Proofs.YtgebghkcikmfaaaGreatDoor

/-
  The walk of trieOf: the closure that is made of right routes in order tells the hop of the longest that fits. By the verifier.
-/
namespace Go.Proofs.YtgebghkcikmfaaaGreatDoor
open Go.RowKit

set_option maxRecDepth 100000 in
theorem implTrie0 (a : Option Addr) (cap d : Nat) (p : Int) (w : World) :
    Calls Tryz.prog 194 #[.slice a 0 cap, .int .i64 (d : Int)] w fun e w' => (∃ v, e = .returned v ∧ Answers w' v d p (hopL [])) ∧ Below w.heap.size w w' := by
  have A : Hid (∀ W, Answers W (.func (.func 244) #[] #[]) d p (hopL [])) := fun W => noneAnswers W d p
  go_enter Tryz.func194, Tryz.ntmps194
  go_wp2
  go_ret
  exact ⟨⟨_, rfl, A.out _⟩, (Below.refl _ _).alloc (Nat.le_refl _) _⟩

set_option maxRecDepth 100000 in
theorem implTrie1 (a : Option Addr) (cap d : Nat) (p : Int) (r : Rt) (hr : r.ok = true) (w : World) (h : Hid (RtsAt w a [r])) :
    Calls Tryz.prog 194 #[.slice a 1 cap, .int .i64 (d : Int)] w fun e w' => (∃ v, e = .returned v ∧ Answers w' v d p (hopL [r])) ∧ Below w.heap.size w w' := by
  obtain ⟨b1, o1, ha1, hb1, c0, c1, c2⟩ := h.out 0 (by simp)
  have hrt : rtAt [r] 0 = r := rfl
  rw [hrt] at c0 c1 c2
  simp only [Nat.zero_mul, Nat.add_zero] at c0 c1 c2
  subst ha1
  have C := fun w => implOne r hr d p w
  have HA : Hid (∀ W v, Answers W v d p (hopL [r]) → Answers W v d p (hopL [r])) := fun _ _ h => h
  unfold Rt.val at C
  clear h hrt
  have hne : b1 ≠ w.heap.size := by omega
  go_enter Tryz.func194, Tryz.ntmps194
  go_wp2_with fail
  refine (C _).mono ?_
  rintro e w1 ⟨⟨v, rfl, A⟩, b1⟩
  have H : Hid (Answers w1 v d p (hopL [r]) ∧ Below w.heap.size w w1) := ⟨A, ((Below.refl _ w).alloc (Nat.le_refl _) _).trans (b1.mono (by simp))⟩
  clear A b1 C HA
  go_wp2
  go_ret
  exact ⟨⟨v, rfl, H.out.1⟩, H.out.2⟩

/-- What is known of each operation's value where the two branches are made. -/
def trPr (S0 : Value) (d : Nat) (p : Int) (R : List Rt) (k n0 : Nat) : Nat → World → Value → Prop := fun i w v =>
  if i = 0 ∨ i = 6 then v = S0 else if i = 1 ∨ i = 7 then v = .int .i64 (k : Int) else if i = 2 then ∃ a c, v = .slice a (R.take k).length c ∧ RtsAt w a (R.take k) ∧ (R.take k).length ≤ c
  else if i = 3 ∨ i = 9 then v = .int .i64 (d : Int) else if i = 4 ∨ i = 10 then v = .int .i64 ((d + 1 : Nat) : Int) else if i = 5 then Answers w v (d + 1) (2 * p) (hopL (R.take k))
  else if i = 8 then ∃ a c, v = .slice a (R.drop k).length c ∧ RtsAt w a (R.drop k) ∧ (R.drop k).length ≤ c else if i = 11 then Answers w v (d + 1) (2 * p + 1) (hopL (R.drop k))
  else if i = 12 then ∃ v0 v1, v = .agg #[v0, v1] ∧ Answers w v0 (d + 1) (2 * p) (hopL (R.take k)) ∧ Answers w v1 (d + 1) (2 * p + 1) (hopL (R.drop k))
  else ∃ B, v = .pointer (some ⟨B, 0, none⟩) ∧ n0 ≤ B ∧ Boxed w B #[.nilFunc, .nilFunc] 277
set_option maxRecDepth 100000 in
theorem trPr_keep {S0 : Value} {d : Nat} {p : Int} {R : List Rt} {k n0 : Nat} (i : Nat) (w w' : World) (v : Value) (h : trPr S0 d p R k n0 i w v) (b : Below w.heap.size w w') : trPr S0 d p R k n0 i w' v := by
  unfold trPr at *
  split
  · rename_i h1; rw [if_pos h1] at h; exact h
  rename_i h1; rw [if_neg h1] at h
  split
  · rename_i h1; rw [if_pos h1] at h; exact h
  rename_i h1; rw [if_neg h1] at h
  split
  · rename_i h1; rw [if_pos h1] at h; obtain ⟨a, c, e, r, l⟩ := h; exact ⟨a, c, e, r.below b, l⟩
  rename_i h1; rw [if_neg h1] at h
  split
  · rename_i h1; rw [if_pos h1] at h; exact h
  rename_i h1; rw [if_neg h1] at h
  split
  · rename_i h1; rw [if_pos h1] at h; exact h
  rename_i h1; rw [if_neg h1] at h
  split
  · rename_i h1; rw [if_pos h1] at h; exact h.below b
  rename_i h1; rw [if_neg h1] at h
  split
  · rename_i h1; rw [if_pos h1] at h; obtain ⟨a, c, e, r, l⟩ := h; exact ⟨a, c, e, r.below b, l⟩
  rename_i h1; rw [if_neg h1] at h
  split
  · rename_i h1; rw [if_pos h1] at h; exact h.below b
  rename_i h1; rw [if_neg h1] at h
  split
  · rename_i h1; rw [if_pos h1] at h; obtain ⟨v0, v1, e, x0, x1⟩ := h; exact ⟨v0, v1, e, x0.below b, x1.below b⟩
  rename_i h1; rw [if_neg h1] at h
  obtain ⟨B, e, hn, hb⟩ := h
  exact ⟨B, e, hn, hb.below hb.under b⟩
set_option maxRecDepth 100000 in
theorem op_call2 {P : Program} {o : Oper} {a : Act} {w : World} {K : Act → World → Prop} {Q : Exit → Act → World → Prop} {f : FuncId} {args : Array Value} (hrun : (execOp a.eval o).run P w = .ok (.enter f args) w) {F : Value → World → Prop}
    (hc : Calls P f args w fun e w' => (∃ v, e = .returned v ∧ F v w') ∧ Below w.heap.size w w') (h : ∀ v w', F v w' → Below w.heap.size w w' → K (a.put o.dst v) w') : o.wp P a w K Q := by
  unfold Oper.wp
  rw [hrun, Oper.upon_enter]
  refine hc.mono fun e w' hh => ?_
  obtain ⟨⟨v, rfl, hF⟩, hb⟩ := hh
  exact h v w' hF hb

set_option maxRecDepth 100000 in
theorem trieAns {d : Nat} {p own : Int} {Z O : List Rt} {w W1 w2 : World} {B : Nat} {v0 v1 : Value} {HL : Int → Int} (hd : d ≤ 31) (x3 : Boxed W1 w.heap.size #[.int .i64 (d : Int)] 2) (x5 : Boxed W1 (w.heap.size + 1) #[.int .i64 own] 2) (hs : w.heap.size + 2 ≤ W1.heap.size)
    (hI : Below W1.heap.size W1 w2) (hlo : W1.heap.size ≤ B) (hbx : Boxed w2 B #[.nilFunc, .nilFunc] 277) (a0 : Answers w2 v0 (d + 1) (2 * p) (hopL Z)) (a1 : Answers w2 v1 (d + 1) (2 * p + 1) (hopL O))
    (hh : ∀ addr, addr / 2 ^ (32 - d) = p → HL addr = if bitV addr d = 0 then (if hopL Z addr = -1 then own else hopL Z addr) else (if hopL O addr = -1 then own else hopL O addr)) :
    Answers (w2.setRow B #[v0, v1]) (.func (.func 247) #[] #[.pointer (some ⟨B, 0, none⟩), .pointer (some ⟨w.heap.size, 0, none⟩), .pointer (some ⟨w.heap.size + 1, 0, none⟩)]) d p HL := by
  have hsame : ∀ k, k ≠ B → (w2.setRow B #[v0, v1]).heap[k]? = w2.heap[k]? := fun k hk => setRow_other _ _ _ _ hk
  have y3 : Boxed (w2.setRow B #[v0, v1]) w.heap.size #[.int .i64 (d : Int)] 2 := by unfold Boxed; rw [hsame _ (by omega)]; exact x3.below (by omega) hI
  have y5 : Boxed (w2.setRow B #[v0, v1]) (w.heap.size + 1) #[.int .i64 own] 2 := by unfold Boxed; rw [hsame _ (by omega)]; exact x5.below (by omega) hI
  have y7 : Boxed (w2.setRow B #[v0, v1]) B #[v0, v1] 277 := setRow_heap w2 B _ _ _ _ hbx
  have b0 : Answers (w2.setRow B #[v0, v1]) v0 (d + 1) (2 * p) (hopL Z) := a0.other (by simp) fun k _ hk => hsame k (by rintro rfl; exact hk hbx)
  have b1 : Answers (w2.setRow B #[v0, v1]) v1 (d + 1) (2 * p + 1) (hopL O) := a1.other (by simp) fun k _ hk => hsame k (by rintro rfl; exact hk hbx)
  clear a0 a1 x3 x5 hsame hI hbx
  have hsz : w.heap.size + 1 < (w2.setRow B #[v0, v1]).heap.size := y5.under
  generalize w2.setRow B #[v0, v1] = w3 at y3 y5 y7 b0 b1 hsz ⊢
  obtain ⟨g0, cb0, D0, rfl, e0, hD0, C0⟩ := b0
  obtain ⟨g1, cb1, D1, rfl, e1, hD1, C1⟩ := b1
  refine ⟨_, _, fun k => k = B ∨ k = w.heap.size ∨ k = w.heap.size + 1 ∨ D0 k ∨ D1 k, rfl, enters_of Tryz.func247 (by kernel_rfl) rfl, ?_, ?_⟩
  · rintro k (rfl | rfl | rfl | h | h)
    · refine ⟨y7.under, ?_⟩
      unfold Boxed at y7
      rw [y7]
      simp [zeroTwo]
    · refine ⟨y3.under, ?_⟩
      unfold Boxed at y3
      rw [y3]
      simp [zeroTwo]
    · refine ⟨y5.under, ?_⟩
      unfold Boxed at y5
      rw [y5]
      simp [zeroTwo]
    · exact hD0 k h
    · exact hD1 k h
  · intro W addr q0 q1 qp hW
    rw [hh addr qp]
    have hbit := bit_split hd qp
    rw [show 31 - d = 32 - (d + 1) by omega] at hbit
    exact implTwoClosure d hd own B w.heap.size (w.heap.size + 1) g0 g1 cb0 cb1 e0 e1 addr q0 q1 (hopL Z addr) (hopL O addr) W (cell_same (hW B (.inl rfl)) (y7.cell 0 rfl)) (cell_same (hW B (.inl rfl)) (y7.cell 1 rfl)) (cell_same (hW _ (.inr (.inl rfl))) (y3.cell 0 rfl)) (cell_same (hW _ (.inr (.inr (.inl rfl)))) (y5.cell 0 rfl))
      (fun hz => C0 W addr q0 q1 (by omega) fun k hk => hW k (.inr (.inr (.inr (.inl hk))))) (fun hz => C1 W addr q0 q1 (by omega) fun k hk => hW k (.inr (.inr (.inr (.inr hk)))))

set_option maxHeartbeats 1600000 in
set_option maxRecDepth 100000 in
theorem implTrieN (d : Nat) (hd : d ≤ 31) (ih : Hid (∀ (l : List Rt) (a : Option Addr) (cap : Nat) (p : Int) (w : World), TrieOk l (d + 1) p → l.length ≤ 64 → l.length ≤ cap → RtsAt w a l →
      Calls Tryz.prog 194 #[.slice a l.length cap, .int .i64 ((d + 1 : Nat) : Int)] w fun e w' => (∃ v, e = .returned v ∧ Answers w' v (d + 1) p (hopL l)) ∧ Below w.heap.size w w'))
    (x : Rt) (t : List Rt) (a : Option Addr) (cap : Nat) (p : Int) (w : World) (h : Hid (TrieOk (x :: t) d p)) (h2 : 1 ≤ t.length) (h64 : t.length + 1 ≤ 64) (hcap : t.length + 1 ≤ cap) (hA : Hid (RtsAt w a (x :: t))) :
    Calls Tryz.prog 194 #[.slice a (t.length + 1) cap, .int .i64 (d : Int)] w fun e w' => (∃ v, e = .returned v ∧ Answers w' v d p (hopL (x :: t))) ∧ Below w.heap.size w w' := by
  obtain ⟨b1, o1, ha1, hb1, c0, c1, c2⟩ := hA.out 0 (by simp)
  have hrt : rtAt (x :: t) 0 = x := rfl
  rw [hrt] at c0 c1 c2
  simp only [Nat.zero_mul, Nat.add_zero] at c0 c1 c2
  subst ha1
  obtain ⟨len, hlen⟩ : ∃ n, t.length = n := ⟨_, rfl⟩
  rw [hlen] at h2 h64 hcap ⊢
  have Hlen : Hid (t.length = len) := hlen
  clear hlen hrt
  obtain ⟨HL, hHL⟩ : ∃ H, H = hopL (x :: t) := ⟨_, rfl⟩
  rw [← hHL]
  have n0 : ((len : Int) + 1 == 0) = false := by rw [beq_eq_false_iff_ne]; omega
  have n1 : ((len : Int) + 1 == 1) = false := by rw [beq_eq_false_iff_ne]; omega
  have hne : b1 ≠ w.heap.size := by omega
  by_cases hb : x.bits = d
  · go_enter Tryz.func194, Tryz.ntmps194
    go_wp2
    go_region
    go_wp2
    go_region
    go_wp2_with fail
    obtain ⟨W, hW⟩ : ∃ W, W = ((w.alloc (.cells #[.int .i64 (d : Int)] 2)).alloc (.cells #[.int .i64 x.hop] 2)).drew.drew := ⟨_, rfl⟩
    have X3 : Boxed W w.heap.size #[.int .i64 (d : Int)] 2 := by rw [hW]; exact (Boxed.new w _ _).more _
    have X5 : Boxed W (w.heap.size + 1) #[.int .i64 x.hop] 2 := by
      rw [hW]
      have e : (w.alloc (.cells #[.int .i64 (d : Int)] 2)).heap.size = w.heap.size + 1 := by simp
      have this := Boxed.new (w.alloc (.cells #[.int .i64 (d : Int)] 2)) #[.int .i64 x.hop] 2
      rw [e] at this
      exact this
    have hS : w.heap.size + 2 = W.heap.size := by rw [hW]; simp
    have hBW : Below w.heap.size w W := by rw [hW]; exact (bel_alloc ((Below.refl _ _).alloc (Nat.le_refl _) _) (Nat.le_refl _) _).drew.drew
    have hRW : RtsAt W (some ⟨b1, o1 + 3, none⟩) t := by
      have := rts_drop (hA.out.below hBW) 1
      simpa using this
    have hRlen : t.length = len := Hlen.out
    have hTR : TrieOk t d p := ⟨fun r hr => h.out.each r (List.mem_cons_of_mem _ hr), (List.pairwise_cons.1 h.out.sorted).2⟩
    have hdeep : ∀ r ∈ t, (d : Int) + 1 ≤ r.bits := (h.out.rest (by omega)).1 hb
    have hhop : ∀ addr, addr / 2 ^ (32 - d) = p → HL addr = if hopL t addr = -1 then x.hop else hopL t addr := fun addr ha => by rw [hHL]; exact hop_cons hd h.out hb addr ha
    rw [← hW]
    have hRcap : len ≤ cap - 1 := by omega
    have hR64 : len ≤ 64 := by omega
    clear hW c0 c1 c2 hA h hb n0 n1 hHL
    generalize hR : t = R at hRW hRlen hTR hdeep hhop
    clear hR
    generalize hown : x.hop = own at X5 hhop ⊢
    clear hown
    have F := implFirst (some ⟨b1, o1 + 3, none⟩) (cap - 1) R d hd W (by omega) hRW (fun k hk => by rw [rtAt_lt hk]; exact (ok_split (hTR.each _ (List.getElem_mem hk)).1).2.1)
    rw [hRlen] at F
    refine F.mono ?_
    rintro e W1 ⟨⟨k, hF, rfl⟩, bW1⟩
    obtain ⟨hz, ho⟩ := hTR.halves hd hdeep k hF.2.1 hF.2.2
    have hk : k ≤ len := by have := hF.1; omega
    have hk0 : (0 : Int) ≤ (k : Int) := by omega
    have hhop2 : ∀ addr, addr / 2 ^ (32 - d) = p → HL addr = if bitV addr d = 0 then (if hopL (R.take k) addr = -1 then own else hopL (R.take k) addr) else (if hopL (R.drop k) addr = -1 then own else hopL (R.drop k) addr) := by
      intro addr ha
      rw [hhop addr ha, hop_halves hd hTR hdeep k hF.2.1 hF.2.2 addr]
      split <;> rfl
    have H1 : Hid (Boxed W1 w.heap.size #[.int .i64 (d : Int)] 2 ∧ Boxed W1 (w.heap.size + 1) #[.int .i64 own] 2 ∧ RtsAt W1 (some ⟨b1, o1 + 3, none⟩) R ∧ Below w.heap.size w W1 ∧ w.heap.size + 2 ≤ W1.heap.size) :=
      ⟨X3.below (by omega) bW1, X5.below (by omega) bW1, hRW.below bW1, hBW.trans (bW1.mono (by omega)), by have := bW1.size; omega⟩
    have H2 : Hid (TrieOk (R.take k) (d + 1) (2 * p) ∧ TrieOk (R.drop k) (d + 1) (2 * p + 1) ∧ ∀ addr, addr / 2 ^ (32 - d) = p → HL addr = if bitV addr d = 0 then (if hopL (R.take k) addr = -1 then own else hopL (R.take k) addr) else (if hopL (R.drop k) addr = -1 then own else hopL (R.drop k) addr)) := ⟨hz, ho, hhop2⟩
    have HR : Hid (R.length = len) := hRlen
    clear F X3 X5 hRW hBW bW1 hz ho hhop hhop2 hF hTR hdeep hRlen
    go_wp2_with fail
    rename_i K1 hK1
    have hl1 : (R.take k).length = k := by rw [List.length_take, HR.out]; omega
    have hl2 : (R.drop k).length = len - k := by rw [List.length_drop, HR.out]
    have hwr : IntKind.i64.wrap ((d : Int) + 1) = ((d + 1 : Nat) : Int) := by rw [IntKind.wrap_i64]; omega
    refine region_draws (by kernel_rfl) (by kernel_rfl) (by kernel_rfl) (by kernel_rfl) (fun w' => Below W1.heap.size W1 w') (fun x y => Below x.heap.size x y) (trPr (.slice (some ⟨b1, o1 + 3, none⟩) (len) (cap - 1)) d p R k W1.heap.size) trPr_keep ?h0 ?step ?last
    case h0 => exact (Below.refl _ _).drew
    case step =>
      intro i o hi ho a w2 hkp hI hp
      have t0 : a.tmps.getD 0 undef = .slice (some ⟨b1, o1 + 3, none⟩) (len) (cap - 1) := hkp.slot 0 (by kernel_rfl)
      have t6 : a.tmps.getD 6 undef = .int .i64 (k : Int) := hkp.slot 6 (by kernel_rfl)
      have t3 : a.tmps.getD 3 undef = .pointer (some ⟨w.heap.size, 0, none⟩) := hkp.slot 3 (by kernel_rfl)
      have t3' : a.tmps[3]?.getD undef = .pointer (some ⟨w.heap.size, 0, none⟩) := by simpa using t3
      have dc : w2.cell? ⟨w.heap.size, 0, none⟩ = some (.int .i64 (d : Int)) := cell_of_below hI (show w.heap.size < _ by have := H1.out.2.2.2.2; omega) (H1.out.1.cell 0 rfl)
      have hcases : i = 0 ∨ i = 1 ∨ i = 2 ∨ i = 3 ∨ i = 4 ∨ i = 5 ∨ i = 6 ∨ i = 7 ∨ i = 8 ∨ i = 9 ∨ i = 10 ∨ i = 11 ∨ i = 12 ∨ i = 13 := by
        have : i + 1 < 15 := hi
        omega
      rcases hcases with rfl | rfl | rfl | rfl | rfl | rfl | rfl | rfl | rfl | rfl | rfl | rfl | rfl | rfl
      · cases ho
        exact ⟨rfl, op_move 0 rfl ⟨_, rfl, Below.refl _ _, hI, by simpa [trPr] using t0⟩⟩
      · cases ho
        exact ⟨rfl, op_move 6 rfl ⟨_, rfl, Below.refl _ _, hI, by simpa [trPr] using t6⟩⟩
      · cases ho
        have e1 : a.tmps[33]?.getD undef = .slice (some ⟨b1, o1 + 3, none⟩) (len) (cap - 1) := by simpa [trPr] using hp ⟨0, .data⟩ 33 (by simp) rfl rfl
        have e2 : a.tmps[34]?.getD undef = .int .i64 (k : Int) := by simpa [trPr] using hp ⟨1, .data⟩ 34 (by simp) rfl rfl
        have hkc : (k : Int) ≤ ((cap - 1 : Nat) : Int) := by omega
        refine ⟨rfl, ?_⟩
        unfold Oper.wp
        simp [go_sem, e1, e2, hk0, hkc]
        refine ⟨_, rfl, Below.refl _ _, hI, ?_⟩
        unfold trPr
        rw [if_neg (by decide), if_neg (by decide), if_pos rfl]
        exact ⟨_, _, by rw [hl1], rts_take (H1.out.2.2.1.below hI) k, by rw [hl1]; omega⟩
      · cases ho
        refine ⟨rfl, ?_⟩
        unfold Oper.wp
        simp [go_sem, t3', dc]
        exact ⟨_, rfl, Below.refl _ _, hI, rfl⟩
      · cases ho
        have e1 : a.tmps[36]?.getD undef = .int .i64 (d : Int) := by simpa [trPr] using hp ⟨3, .data⟩ 36 (by simp) rfl rfl
        refine ⟨rfl, ?_⟩
        unfold Oper.wp
        simp [go_sem, e1]
        refine ⟨_, rfl, Below.refl _ _, hI, ?_⟩
        unfold trPr
        rw [if_neg (by decide), if_neg (by decide), if_neg (by decide), if_neg (by decide), if_pos (by decide), hwr]
      · cases ho
        obtain ⟨sa, sc, es, er, el⟩ : ∃ sa c, a.tmps.getD 35 undef = .slice sa (R.take k).length c ∧ RtsAt w2 sa (R.take k) ∧ (R.take k).length ≤ c := hp ⟨2, .data⟩ 35 (by simp) rfl rfl
        have e1 : a.tmps[35]?.getD undef = .slice sa (R.take k).length sc := by simpa using es
        have e2 : a.tmps[37]?.getD undef = .int .i64 ((d + 1 : Nat) : Int) := (by simpa using (show a.tmps.getD 37 undef = .int .i64 ((d + 1 : Nat) : Int) from hp ⟨4, .data⟩ 37 (by simp) rfl rfl))
        have I := ih.out (R.take k) sa sc (2 * p) w2 H2.out.1 (by rw [hl1]; omega) el er
        generalize (R.take k).length = nn at I e1
        generalize ((d + 1 : Nat) : Int) = zz at I e2
        exact ⟨rfl, op_call2 (by simp [execOp, resolve, Deferred.ofValue, invoke, Act.eval, e1, e2]) I fun v w' hv hb => ⟨_, rfl, hb, hI.trans (hb.mono hI.size), hv⟩⟩
      · cases ho
        exact ⟨rfl, op_move 0 rfl ⟨_, rfl, Below.refl _ _, hI, by simpa [trPr] using t0⟩⟩
      · cases ho
        exact ⟨rfl, op_move 6 rfl ⟨_, rfl, Below.refl _ _, hI, by simpa [trPr] using t6⟩⟩
      · cases ho
        have e1 : a.tmps[39]?.getD undef = .slice (some ⟨b1, o1 + 3, none⟩) (len) (cap - 1) := by simpa [trPr] using hp ⟨6, .data⟩ 39 (by simp) rfl rfl
        have e2 : a.tmps[40]?.getD undef = .int .i64 (k : Int) := by simpa [trPr] using hp ⟨7, .data⟩ 40 (by simp) rfl rfl
        have hkc2 : k ≤ len := by omega
        refine ⟨rfl, ?_⟩
        unfold Oper.wp
        simp [go_sem, e1, e2, hkc2]
        refine ⟨_, rfl, Below.refl _ _, hI, ?_⟩
        unfold trPr
        rw [if_neg (by decide), if_neg (by decide), if_neg (by decide), if_neg (by decide), if_neg (by decide), if_neg (by decide), if_pos rfl]
        refine ⟨_, _, by rw [hl2], ?_, by rw [hl2]; omega⟩
        by_cases hck : cap - 1 = k
        · rw [if_pos hck]
          have : R.drop k = [] := List.drop_eq_nil_of_le (by rw [HR.out]; omega)
          rw [this]
          exact RtsAt.nil _ _
        · rw [if_neg hck]
          exact rts_drop (H1.out.2.2.1.below hI) k
      · cases ho
        refine ⟨rfl, ?_⟩
        unfold Oper.wp
        simp [go_sem, t3', dc]
        exact ⟨_, rfl, Below.refl _ _, hI, rfl⟩
      · cases ho
        have e1 : a.tmps[42]?.getD undef = .int .i64 (d : Int) := by simpa [trPr] using hp ⟨9, .data⟩ 42 (by simp) rfl rfl
        refine ⟨rfl, ?_⟩
        unfold Oper.wp
        simp [go_sem, e1]
        refine ⟨_, rfl, Below.refl _ _, hI, ?_⟩
        unfold trPr
        rw [if_neg (by decide), if_neg (by decide), if_neg (by decide), if_neg (by decide), if_pos (by decide), hwr]
      · cases ho
        obtain ⟨sa, sc, es, er, el⟩ : ∃ sa c, a.tmps.getD 41 undef = .slice sa (R.drop k).length c ∧ RtsAt w2 sa (R.drop k) ∧ (R.drop k).length ≤ c := hp ⟨8, .data⟩ 41 (by simp) rfl rfl
        have e1 : a.tmps[41]?.getD undef = .slice sa (R.drop k).length sc := by simpa using es
        have e2 : a.tmps[43]?.getD undef = .int .i64 ((d + 1 : Nat) : Int) := (by simpa using (show a.tmps.getD 43 undef = .int .i64 ((d + 1 : Nat) : Int) from hp ⟨10, .data⟩ 43 (by simp) rfl rfl))
        have I := ih.out (R.drop k) sa sc (2 * p + 1) w2 H2.out.2.1 (by rw [hl2]; omega) el er
        generalize (R.drop k).length = nn at I e1
        generalize ((d + 1 : Nat) : Int) = zz at I e2
        exact ⟨rfl, op_call2 (by simp [execOp, resolve, Deferred.ofValue, invoke, Act.eval, e1, e2]) I fun v w' hv hb => ⟨_, rfl, hb, hI.trans (hb.mono hI.size), hv⟩⟩
      · cases ho
        have a0 : Answers w2 (a.tmps.getD 38 undef) (d + 1) (2 * p) (hopL (R.take k)) := hp ⟨5, .data⟩ 38 (by simp) rfl rfl
        have a1 : Answers w2 (a.tmps.getD 44 undef) (d + 1) (2 * p + 1) (hopL (R.drop k)) := hp ⟨11, .data⟩ 44 (by simp) rfl rfl
        have a0' := a0
        have a1' := a1
        obtain ⟨g0, cb0, _, x0, _⟩ := a0'
        obtain ⟨g1, cb1, _, x1, _⟩ := a1'
        have e1 : a.tmps[38]?.getD undef = .func (.func g0) #[] cb0 := by simpa using x0
        have e2 : a.tmps[44]?.getD undef = .func (.func g1) #[] cb1 := by simpa using x1
        rw [x0] at a0
        rw [x1] at a1
        refine ⟨rfl, ?_⟩
        unfold Oper.wp
        simp [go_sem, e1, e2]
        exact ⟨_, rfl, Below.refl _ _, hI, _, _, rfl, a0, a1⟩
      · cases ho
        refine ⟨rfl, ?_⟩
        unfold Oper.wp
        simp [go_sem]
        exact ⟨_, rfl, (Below.refl _ _).alloc (Nat.le_refl _) _, hI.alloc hI.size _, w2.heap.size, rfl, hI.size, Boxed.new w2 _ _⟩
    case last =>
      intro o ho a w2 hkp hI hp
      cases ho
      obtain ⟨v0, v1, ev, a0, a1⟩ : ∃ v0 v1, a.tmps.getD 45 undef = .agg #[v0, v1] ∧ Answers w2 v0 (d + 1) (2 * p) (hopL (R.take k)) ∧ Answers w2 v1 (d + 1) (2 * p + 1) (hopL (R.drop k)) := hp 12 45 (by decide) rfl
      obtain ⟨B, eB, hlo, hbx⟩ : ∃ B, a.tmps.getD 7 undef = .pointer (some ⟨B, 0, none⟩) ∧ W1.heap.size ≤ B ∧ Boxed w2 B #[.nilFunc, .nilFunc] 277 := hp 13 7 (by decide) rfl
      have t3 : a.tmps.getD 3 undef = .pointer (some ⟨w.heap.size, 0, none⟩) := hkp.slot 3 (by kernel_rfl)
      have t5 : a.tmps.getD 5 undef = .pointer (some ⟨w.heap.size + 1, 0, none⟩) := hkp.slot 5 (by kernel_rfl)
      have hone : (#[v0, v1] : Array Value).all (·.oneCell') = true := by
        obtain ⟨g0, cb0, _, x0, _⟩ := a0
        obtain ⟨g1, cb1, _, x1, _⟩ := a1
        rw [x0, x1]
        simp [Value.oneCell']
      refine ⟨rfl, wp_store_row 277 (.tmp 7) (.tmp 45) rfl B _ eB ev _ _ hbx (by kernel_rfl) rfl hone ?_⟩
      have hA := trieAns hd H1.out.1 H1.out.2.1 H1.out.2.2.2.2 hI hlo hbx a0 a1 H2.out.2.2
      have hBel : Below w.heap.size w (w2.setRow B #[v0, v1]) := below_setRow (H1.out.2.2.2.1.trans (hI.mono (by have := H1.out.2.2.2.2; omega))) (by have := H1.out.2.2.2.2; omega) _
      have hsz : a.tmps.size = 47 := hkp.size
      have hdf : a.defers = [] := hkp.defers
      have HE : Hid (Answers (w2.setRow B #[v0, v1]) (.func (.func 247) #[] #[.pointer (some ⟨B, 0, none⟩), .pointer (some ⟨w.heap.size, 0, none⟩), .pointer (some ⟨w.heap.size + 1, 0, none⟩)]) d p HL ∧ Below w.heap.size w (w2.setRow B #[v0, v1])) := ⟨hA, hBel⟩
      have t3' : a.tmps[3]?.getD undef = .pointer (some ⟨w.heap.size, 0, none⟩) := by simpa using t3
      have t5' : a.tmps[5]?.getD undef = .pointer (some ⟨w.heap.size + 1, 0, none⟩) := by simpa using t5
      have t7' : a.tmps[7]?.getD undef = .pointer (some ⟨B, 0, none⟩) := by simpa using eB
      clear hp hkp ev a0 a1 eB t3 t5 hone hA hBel hbx hI
      generalize w2.setRow B #[v0, v1] = w3 at HE ⊢
      show Exit.then _ _ .normal a _
      simp only [Exit.then]
      refine hK1 _ _ ?_
      have e7 : a.tmps[7]'(by omega) = .pointer (some ⟨B, 0, none⟩) := by simpa [hsz] using t7'
      have e3 : a.tmps[3]'(by omega) = .pointer (some ⟨w.heap.size, 0, none⟩) := by simpa [hsz] using t3'
      have e5 : a.tmps[5]'(by omega) = .pointer (some ⟨w.heap.size + 1, 0, none⟩) := by simpa [hsz] using t5'
      clear t3' t5' t7'
      go_wp2
      refine bodyPost_ret (results_tmp rfl _ _ _) rfl ⟨⟨.func (.func 247) #[] #[.pointer (some ⟨B, 0, none⟩), .pointer (some ⟨w.heap.size, 0, none⟩), .pointer (some ⟨w.heap.size + 1, 0, none⟩)], ?_, HE.out.1⟩, HE.out.2⟩
      simp [hsz]
  · have hbn : (x.bits == (d : Int)) = false := by rw [beq_eq_false_iff_ne]; exact hb
    go_enter Tryz.func194, Tryz.ntmps194
    go_wp2
    go_region
    go_wp2_with fail
    obtain ⟨own, hown⟩ : ∃ o : Int, o = -1 := ⟨_, rfl⟩
    obtain ⟨W, hW⟩ : ∃ W, W = ((w.alloc (.cells #[.int .i64 (d : Int)] 2)).alloc (.cells #[.int .i64 (-1)] 2)).drew := ⟨_, rfl⟩
    have X3 : Boxed W w.heap.size #[.int .i64 (d : Int)] 2 := by rw [hW]; exact (Boxed.new w _ _).more _
    have X5 : Boxed W (w.heap.size + 1) #[.int .i64 own] 2 := by
      rw [hW, hown]
      have e : (w.alloc (.cells #[.int .i64 (d : Int)] 2)).heap.size = w.heap.size + 1 := by simp
      have this := Boxed.new (w.alloc (.cells #[.int .i64 (d : Int)] 2)) #[.int .i64 (-1 : Int)] 2
      rw [e] at this
      exact this
    have hS : w.heap.size + 2 = W.heap.size := by rw [hW]; simp
    have hBW : Below w.heap.size w W := by rw [hW]; exact (bel_alloc ((Below.refl _ _).alloc (Nat.le_refl _) _) (Nat.le_refl _) _).drew
    have hRW : RtsAt W (some ⟨b1, o1, none⟩) (x :: t) := hA.out.below hBW
    have hRlen : (x :: t).length = len + 1 := by rw [List.length_cons, Hlen.out]
    have hTR : TrieOk (x :: t) d p := h.out
    have hdeep : ∀ r ∈ (x :: t), (d : Int) + 1 ≤ r.bits := (h.out.rest (by omega)).2 hb
    have hhop : ∀ addr, addr / 2 ^ (32 - d) = p → HL addr = if hopL (x :: t) addr = -1 then own else hopL (x :: t) addr := fun addr _ => by
      rw [hHL, hown]
      split
      · assumption
      · rfl
    rw [← hW]
    have hRcap : len + 1 ≤ cap := by omega
    have hR64 : len + 1 ≤ 64 := by omega
    clear hW c0 c1 c2 hA h hb hbn n0 n1 hHL
    generalize hR : (x :: t) = R at hRW hRlen hTR hdeep hhop
    clear hR
    clear hown
    have F := implFirst (some ⟨b1, o1, none⟩) (cap) R d hd W (by omega) hRW (fun k hk => by rw [rtAt_lt hk]; exact (ok_split (hTR.each _ (List.getElem_mem hk)).1).2.1)
    rw [hRlen] at F
    refine F.mono ?_
    rintro e W1 ⟨⟨k, hF, rfl⟩, bW1⟩
    obtain ⟨hz, ho⟩ := hTR.halves hd hdeep k hF.2.1 hF.2.2
    have hk : k ≤ len + 1 := by have := hF.1; omega
    have hk0 : (0 : Int) ≤ (k : Int) := by omega
    have hhop2 : ∀ addr, addr / 2 ^ (32 - d) = p → HL addr = if bitV addr d = 0 then (if hopL (R.take k) addr = -1 then own else hopL (R.take k) addr) else (if hopL (R.drop k) addr = -1 then own else hopL (R.drop k) addr) := by
      intro addr ha
      rw [hhop addr ha, hop_halves hd hTR hdeep k hF.2.1 hF.2.2 addr]
      split <;> rfl
    have H1 : Hid (Boxed W1 w.heap.size #[.int .i64 (d : Int)] 2 ∧ Boxed W1 (w.heap.size + 1) #[.int .i64 own] 2 ∧ RtsAt W1 (some ⟨b1, o1, none⟩) R ∧ Below w.heap.size w W1 ∧ w.heap.size + 2 ≤ W1.heap.size) :=
      ⟨X3.below (by omega) bW1, X5.below (by omega) bW1, hRW.below bW1, hBW.trans (bW1.mono (by omega)), by have := bW1.size; omega⟩
    have H2 : Hid (TrieOk (R.take k) (d + 1) (2 * p) ∧ TrieOk (R.drop k) (d + 1) (2 * p + 1) ∧ ∀ addr, addr / 2 ^ (32 - d) = p → HL addr = if bitV addr d = 0 then (if hopL (R.take k) addr = -1 then own else hopL (R.take k) addr) else (if hopL (R.drop k) addr = -1 then own else hopL (R.drop k) addr)) := ⟨hz, ho, hhop2⟩
    have HR : Hid (R.length = len + 1) := hRlen
    clear F X3 X5 hRW hBW bW1 hz ho hhop hhop2 hF hTR hdeep hRlen
    go_wp2_with fail
    rename_i K1 hK1
    have hl1 : (R.take k).length = k := by rw [List.length_take, HR.out]; omega
    have hl2 : (R.drop k).length = len + 1 - k := by rw [List.length_drop, HR.out]
    have hwr : IntKind.i64.wrap ((d : Int) + 1) = ((d + 1 : Nat) : Int) := by rw [IntKind.wrap_i64]; omega
    refine region_draws (by kernel_rfl) (by kernel_rfl) (by kernel_rfl) (by kernel_rfl) (fun w' => Below W1.heap.size W1 w') (fun x y => Below x.heap.size x y) (trPr (.slice (some ⟨b1, o1, none⟩) (len + 1) (cap)) d p R k W1.heap.size) trPr_keep ?h0 ?step ?last
    case h0 => exact (Below.refl _ _).drew
    case step =>
      intro i o hi ho a w2 hkp hI hp
      have t0 : a.tmps.getD 0 undef = .slice (some ⟨b1, o1, none⟩) (len + 1) (cap) := hkp.slot 0 (by kernel_rfl)
      have t6 : a.tmps.getD 6 undef = .int .i64 (k : Int) := hkp.slot 6 (by kernel_rfl)
      have t3 : a.tmps.getD 3 undef = .pointer (some ⟨w.heap.size, 0, none⟩) := hkp.slot 3 (by kernel_rfl)
      have t3' : a.tmps[3]?.getD undef = .pointer (some ⟨w.heap.size, 0, none⟩) := by simpa using t3
      have dc : w2.cell? ⟨w.heap.size, 0, none⟩ = some (.int .i64 (d : Int)) := cell_of_below hI (show w.heap.size < _ by have := H1.out.2.2.2.2; omega) (H1.out.1.cell 0 rfl)
      have hcases : i = 0 ∨ i = 1 ∨ i = 2 ∨ i = 3 ∨ i = 4 ∨ i = 5 ∨ i = 6 ∨ i = 7 ∨ i = 8 ∨ i = 9 ∨ i = 10 ∨ i = 11 ∨ i = 12 ∨ i = 13 := by
        have : i + 1 < 15 := hi
        omega
      rcases hcases with rfl | rfl | rfl | rfl | rfl | rfl | rfl | rfl | rfl | rfl | rfl | rfl | rfl | rfl
      · cases ho
        exact ⟨rfl, op_move 0 rfl ⟨_, rfl, Below.refl _ _, hI, by simpa [trPr] using t0⟩⟩
      · cases ho
        exact ⟨rfl, op_move 6 rfl ⟨_, rfl, Below.refl _ _, hI, by simpa [trPr] using t6⟩⟩
      · cases ho
        have e1 : a.tmps[33]?.getD undef = .slice (some ⟨b1, o1, none⟩) (len + 1) (cap) := by simpa [trPr] using hp ⟨0, .data⟩ 33 (by simp) rfl rfl
        have e2 : a.tmps[34]?.getD undef = .int .i64 (k : Int) := by simpa [trPr] using hp ⟨1, .data⟩ 34 (by simp) rfl rfl
        have hkc : (k : Int) ≤ ((cap : Nat) : Int) := by omega
        refine ⟨rfl, ?_⟩
        unfold Oper.wp
        simp [go_sem, e1, e2, hk0, hkc]
        refine ⟨_, rfl, Below.refl _ _, hI, ?_⟩
        unfold trPr
        rw [if_neg (by decide), if_neg (by decide), if_pos rfl]
        exact ⟨_, _, by rw [hl1], rts_take (H1.out.2.2.1.below hI) k, by rw [hl1]; omega⟩
      · cases ho
        refine ⟨rfl, ?_⟩
        unfold Oper.wp
        simp [go_sem, t3', dc]
        exact ⟨_, rfl, Below.refl _ _, hI, rfl⟩
      · cases ho
        have e1 : a.tmps[36]?.getD undef = .int .i64 (d : Int) := by simpa [trPr] using hp ⟨3, .data⟩ 36 (by simp) rfl rfl
        refine ⟨rfl, ?_⟩
        unfold Oper.wp
        simp [go_sem, e1]
        refine ⟨_, rfl, Below.refl _ _, hI, ?_⟩
        unfold trPr
        rw [if_neg (by decide), if_neg (by decide), if_neg (by decide), if_neg (by decide), if_pos (by decide), hwr]
      · cases ho
        obtain ⟨sa, sc, es, er, el⟩ : ∃ sa c, a.tmps.getD 35 undef = .slice sa (R.take k).length c ∧ RtsAt w2 sa (R.take k) ∧ (R.take k).length ≤ c := hp ⟨2, .data⟩ 35 (by simp) rfl rfl
        have e1 : a.tmps[35]?.getD undef = .slice sa (R.take k).length sc := by simpa using es
        have e2 : a.tmps[37]?.getD undef = .int .i64 ((d + 1 : Nat) : Int) := (by simpa using (show a.tmps.getD 37 undef = .int .i64 ((d + 1 : Nat) : Int) from hp ⟨4, .data⟩ 37 (by simp) rfl rfl))
        have I := ih.out (R.take k) sa sc (2 * p) w2 H2.out.1 (by rw [hl1]; omega) el er
        generalize (R.take k).length = nn at I e1
        generalize ((d + 1 : Nat) : Int) = zz at I e2
        exact ⟨rfl, op_call2 (by simp [execOp, resolve, Deferred.ofValue, invoke, Act.eval, e1, e2]) I fun v w' hv hb => ⟨_, rfl, hb, hI.trans (hb.mono hI.size), hv⟩⟩
      · cases ho
        exact ⟨rfl, op_move 0 rfl ⟨_, rfl, Below.refl _ _, hI, by simpa [trPr] using t0⟩⟩
      · cases ho
        exact ⟨rfl, op_move 6 rfl ⟨_, rfl, Below.refl _ _, hI, by simpa [trPr] using t6⟩⟩
      · cases ho
        have e1 : a.tmps[39]?.getD undef = .slice (some ⟨b1, o1, none⟩) (len + 1) (cap) := by simpa [trPr] using hp ⟨6, .data⟩ 39 (by simp) rfl rfl
        have e2 : a.tmps[40]?.getD undef = .int .i64 (k : Int) := by simpa [trPr] using hp ⟨7, .data⟩ 40 (by simp) rfl rfl
        have hkc2 : (k : Int) ≤ (len : Int) + 1 := by omega
        refine ⟨rfl, ?_⟩
        unfold Oper.wp
        simp [go_sem, e1, e2, hkc2]
        refine ⟨_, rfl, Below.refl _ _, hI, ?_⟩
        unfold trPr
        rw [if_neg (by decide), if_neg (by decide), if_neg (by decide), if_neg (by decide), if_neg (by decide), if_neg (by decide), if_pos rfl]
        refine ⟨_, _, by rw [hl2], ?_, by rw [hl2]; omega⟩
        by_cases hck : cap = k
        · rw [if_pos hck]
          have : R.drop k = [] := List.drop_eq_nil_of_le (by rw [HR.out]; omega)
          rw [this]
          exact RtsAt.nil _ _
        · rw [if_neg hck]
          exact rts_drop (H1.out.2.2.1.below hI) k
      · cases ho
        refine ⟨rfl, ?_⟩
        unfold Oper.wp
        simp [go_sem, t3', dc]
        exact ⟨_, rfl, Below.refl _ _, hI, rfl⟩
      · cases ho
        have e1 : a.tmps[42]?.getD undef = .int .i64 (d : Int) := by simpa [trPr] using hp ⟨9, .data⟩ 42 (by simp) rfl rfl
        refine ⟨rfl, ?_⟩
        unfold Oper.wp
        simp [go_sem, e1]
        refine ⟨_, rfl, Below.refl _ _, hI, ?_⟩
        unfold trPr
        rw [if_neg (by decide), if_neg (by decide), if_neg (by decide), if_neg (by decide), if_pos (by decide), hwr]
      · cases ho
        obtain ⟨sa, sc, es, er, el⟩ : ∃ sa c, a.tmps.getD 41 undef = .slice sa (R.drop k).length c ∧ RtsAt w2 sa (R.drop k) ∧ (R.drop k).length ≤ c := hp ⟨8, .data⟩ 41 (by simp) rfl rfl
        have e1 : a.tmps[41]?.getD undef = .slice sa (R.drop k).length sc := by simpa using es
        have e2 : a.tmps[43]?.getD undef = .int .i64 ((d + 1 : Nat) : Int) := (by simpa using (show a.tmps.getD 43 undef = .int .i64 ((d + 1 : Nat) : Int) from hp ⟨10, .data⟩ 43 (by simp) rfl rfl))
        have I := ih.out (R.drop k) sa sc (2 * p + 1) w2 H2.out.2.1 (by rw [hl2]; omega) el er
        generalize (R.drop k).length = nn at I e1
        generalize ((d + 1 : Nat) : Int) = zz at I e2
        exact ⟨rfl, op_call2 (by simp [execOp, resolve, Deferred.ofValue, invoke, Act.eval, e1, e2]) I fun v w' hv hb => ⟨_, rfl, hb, hI.trans (hb.mono hI.size), hv⟩⟩
      · cases ho
        have a0 : Answers w2 (a.tmps.getD 38 undef) (d + 1) (2 * p) (hopL (R.take k)) := hp ⟨5, .data⟩ 38 (by simp) rfl rfl
        have a1 : Answers w2 (a.tmps.getD 44 undef) (d + 1) (2 * p + 1) (hopL (R.drop k)) := hp ⟨11, .data⟩ 44 (by simp) rfl rfl
        have a0' := a0
        have a1' := a1
        obtain ⟨g0, cb0, _, x0, _⟩ := a0'
        obtain ⟨g1, cb1, _, x1, _⟩ := a1'
        have e1 : a.tmps[38]?.getD undef = .func (.func g0) #[] cb0 := by simpa using x0
        have e2 : a.tmps[44]?.getD undef = .func (.func g1) #[] cb1 := by simpa using x1
        rw [x0] at a0
        rw [x1] at a1
        refine ⟨rfl, ?_⟩
        unfold Oper.wp
        simp [go_sem, e1, e2]
        exact ⟨_, rfl, Below.refl _ _, hI, _, _, rfl, a0, a1⟩
      · cases ho
        refine ⟨rfl, ?_⟩
        unfold Oper.wp
        simp [go_sem]
        exact ⟨_, rfl, (Below.refl _ _).alloc (Nat.le_refl _) _, hI.alloc hI.size _, w2.heap.size, rfl, hI.size, Boxed.new w2 _ _⟩
    case last =>
      intro o ho a w2 hkp hI hp
      cases ho
      obtain ⟨v0, v1, ev, a0, a1⟩ : ∃ v0 v1, a.tmps.getD 45 undef = .agg #[v0, v1] ∧ Answers w2 v0 (d + 1) (2 * p) (hopL (R.take k)) ∧ Answers w2 v1 (d + 1) (2 * p + 1) (hopL (R.drop k)) := hp 12 45 (by decide) rfl
      obtain ⟨B, eB, hlo, hbx⟩ : ∃ B, a.tmps.getD 7 undef = .pointer (some ⟨B, 0, none⟩) ∧ W1.heap.size ≤ B ∧ Boxed w2 B #[.nilFunc, .nilFunc] 277 := hp 13 7 (by decide) rfl
      have t3 : a.tmps.getD 3 undef = .pointer (some ⟨w.heap.size, 0, none⟩) := hkp.slot 3 (by kernel_rfl)
      have t5 : a.tmps.getD 5 undef = .pointer (some ⟨w.heap.size + 1, 0, none⟩) := hkp.slot 5 (by kernel_rfl)
      have hone : (#[v0, v1] : Array Value).all (·.oneCell') = true := by
        obtain ⟨g0, cb0, _, x0, _⟩ := a0
        obtain ⟨g1, cb1, _, x1, _⟩ := a1
        rw [x0, x1]
        simp [Value.oneCell']
      refine ⟨rfl, wp_store_row 277 (.tmp 7) (.tmp 45) rfl B _ eB ev _ _ hbx (by kernel_rfl) rfl hone ?_⟩
      have hA := trieAns hd H1.out.1 H1.out.2.1 H1.out.2.2.2.2 hI hlo hbx a0 a1 H2.out.2.2
      have hBel : Below w.heap.size w (w2.setRow B #[v0, v1]) := below_setRow (H1.out.2.2.2.1.trans (hI.mono (by have := H1.out.2.2.2.2; omega))) (by have := H1.out.2.2.2.2; omega) _
      have hsz : a.tmps.size = 47 := hkp.size
      have hdf : a.defers = [] := hkp.defers
      have HE : Hid (Answers (w2.setRow B #[v0, v1]) (.func (.func 247) #[] #[.pointer (some ⟨B, 0, none⟩), .pointer (some ⟨w.heap.size, 0, none⟩), .pointer (some ⟨w.heap.size + 1, 0, none⟩)]) d p HL ∧ Below w.heap.size w (w2.setRow B #[v0, v1])) := ⟨hA, hBel⟩
      have t3' : a.tmps[3]?.getD undef = .pointer (some ⟨w.heap.size, 0, none⟩) := by simpa using t3
      have t5' : a.tmps[5]?.getD undef = .pointer (some ⟨w.heap.size + 1, 0, none⟩) := by simpa using t5
      have t7' : a.tmps[7]?.getD undef = .pointer (some ⟨B, 0, none⟩) := by simpa using eB
      clear hp hkp ev a0 a1 eB t3 t5 hone hA hBel hbx hI
      generalize w2.setRow B #[v0, v1] = w3 at HE ⊢
      show Exit.then _ _ .normal a _
      simp only [Exit.then]
      refine hK1 _ _ ?_
      have e7 : a.tmps[7]'(by omega) = .pointer (some ⟨B, 0, none⟩) := by simpa [hsz] using t7'
      have e3 : a.tmps[3]'(by omega) = .pointer (some ⟨w.heap.size, 0, none⟩) := by simpa [hsz] using t3'
      have e5 : a.tmps[5]'(by omega) = .pointer (some ⟨w.heap.size + 1, 0, none⟩) := by simpa [hsz] using t5'
      clear t3' t5' t7'
      go_wp2
      refine bodyPost_ret (results_tmp rfl _ _ _) rfl ⟨⟨.func (.func 247) #[] #[.pointer (some ⟨B, 0, none⟩), .pointer (some ⟨w.heap.size, 0, none⟩), .pointer (some ⟨w.heap.size + 1, 0, none⟩)], ?_, HE.out.1⟩, HE.out.2⟩
      simp [hsz]

set_option maxRecDepth 100000 in
theorem implTrie : ∀ (n d : Nat), d + n = 32 → ∀ (l : List Rt) (a : Option Addr) (cap : Nat) (p : Int) (w : World), TrieOk l d p → l.length ≤ 64 → l.length ≤ cap → RtsAt w a l →
    Calls Tryz.prog 194 #[.slice a l.length cap, .int .i64 (d : Int)] w fun e w' => (∃ v, e = .returned v ∧ Answers w' v d p (hopL l)) ∧ Below w.heap.size w w' := by
  intro n
  induction n with
  | zero =>
    intro d hdn l a cap p w hT h64 hcap hA
    match l, hT, h64, hcap, hA with
    | [], _, _, _, _ => exact implTrie0 a cap d p w
    | [r], hT, _, _, hA => exact implTrie1 a cap d p r (hT.each r (by simp)).1 w hA
    | x :: y :: t, hT, _, _, _ => have := hT.two (by omega) (by simp); omega
  | succ n ih =>
    intro d hdn l a cap p w hT h64 hcap hA
    match l, hT, h64, hcap, hA with
    | [], _, _, _, _ => exact implTrie0 a cap d p w
    | [r], hT, _, _, hA => exact implTrie1 a cap d p r (hT.each r (by simp)).1 w hA
    | x :: y :: t, hT, h64, hcap, hA => exact implTrieN d (by omega) (fun l a cap p w h1 h2 h3 h4 => ih (d + 1) (by omega) l a cap p w h1 h2 h3 h4) x (y :: t) a cap p w hT (by simp) h64 hcap hA
end Go.Proofs.YtgebghkcikmfaaaGreatDoor

/-
  The walks of cmp.Compare and cmp.Or. By the verifier.
-/
namespace Go.Proofs.YtgebghkcikmfaaaGreatDoor
open Go.RowKit

/-- -1, 0 or 1. -/
def cmpV (a b : Int) : Int := if a < b then -1 else if b < a then 1 else 0
theorem implCompare (a b : Int) (w : World) :
    Calls Tryz.prog 262 #[.int .i64 a, .int .i64 b] w fun e w' => e = .returned (.int .i64 (cmpV a b)) ∧ w' = w := by
  unfold cmpV
  by_cases h : a < b
  · rw [if_pos h]
    go_enter Tryz.func262, Tryz.ntmps262
    go_wp2_with (go_at_call 286; go_in)
    go_ret
    exact ⟨rfl, rfl⟩
  · rw [if_neg h]
    by_cases h2 : b < a
    · rw [if_pos h2]
      go_enter Tryz.func262, Tryz.ntmps262
      go_wp2_with (go_at_call 286; go_in)
      go_ret
      exact ⟨rfl, rfl⟩
    · rw [if_neg h2]
      go_enter Tryz.func262, Tryz.ntmps262
      go_wp2_with (go_at_call 286; go_in)
      go_ret
      exact ⟨rfl, rfl⟩

theorem implOr (x y : Int) (w : World) (B : Nat) (c0 : w.cell? ⟨B, 0, none⟩ = some (.int .i64 x)) (c1 : w.cell? ⟨B, 1, none⟩ = some (.int .i64 y)) :
    Calls Tryz.prog 261 #[.slice (some ⟨B, 0, none⟩) 2 2] w fun e w' => e = .returned (.int .i64 (if x = 0 then y else x)) ∧ w' = w := by
  by_cases hx : x = 0
  · rw [if_pos hx]
    subst hx
    by_cases hy : y = 0
    · subst hy
      go_enter Tryz.func261, Tryz.ntmps261
      go_wp2
      go_rounds 3
      all_goals (go_ret; exact ⟨rfl, rfl⟩)
    · go_enter Tryz.func261, Tryz.ntmps261
      go_wp2
      go_rounds 2
      all_goals (go_ret; exact ⟨rfl, rfl⟩)
  · rw [if_neg hx]
    go_enter Tryz.func261, Tryz.ntmps261
    go_wp2
    go_rounds 1
    all_goals (go_ret; exact ⟨rfl, rfl⟩)

theorem op_call {P : Program} {o : Oper} {a : Act} {w : World} {K : Act → World → Prop} {Q : Exit → Act → World → Prop} {f : FuncId} {args : Array Value} (hrun : (execOp a.eval o).run P w = .ok (.enter f args) w) {v : Value}
    (hc : Calls P f args w fun e w' => e = .returned v ∧ w' = w) (h : K (a.put o.dst v) w) : o.wp P a w K Q := by
  unfold Oper.wp
  rw [hrun, Oper.upon_enter]
  refine hc.mono fun e w' hh => ?_
  obtain ⟨rfl, rfl⟩ := hh
  exact h
end Go.Proofs.YtgebghkcikmfaaaGreatDoor

/-
  The walks of the order of routes, the program's own: cmp.Compare, cmp.Or, routeOrder. By the verifier.
-/
namespace Go.Proofs.YtgebghkcikmfaaaGreatDoor
open Go.RowKit

/-- By Net, then by Bits. -/
def ordV (a b : Rt) : Int := if cmpV a.net b.net = 0 then cmpV a.bits b.bits else cmpV a.net b.net

/-- What is known of each operation's value. -/
def ordPr (B : Nat) (n1 n2 b1 b2 x y z : Int) : Nat → World → Value → Prop := fun i w v =>
  if i = 0 then v = .pointer (some ⟨B, 0, none⟩) else if i = 1 then v = .int .i64 n1 else if i = 2 then v = .pointer (some ⟨B + 1, 0, none⟩) else if i = 3 then v = .int .i64 n2 else if i = 4 then v = .int .i64 x
  else if i = 5 then v = .pointer (some ⟨B, 1, none⟩) else if i = 6 then v = .int .i64 b1 else if i = 7 then v = .pointer (some ⟨B + 1, 1, none⟩) else if i = 8 then v = .int .i64 b2 else if i = 9 then v = .int .i64 y
  else if i = 10 then ∃ b, v = .slice (some ⟨b, 0, none⟩) 2 2 ∧ b < w.heap.size ∧ w.cell? ⟨b, 0, none⟩ = some (.int .i64 x) ∧ w.cell? ⟨b, 1, none⟩ = some (.int .i64 y)
  else v = .int .i64 z
theorem ordPr_keep {B : Nat} {n1 n2 b1 b2 x y z : Int} (i : Nat) (w w' : World) (v : Value) (h : ordPr B n1 n2 b1 b2 x y z i w v) (k : Below w.heap.size w w') : ordPr B n1 n2 b1 b2 x y z i w' v := by
  unfold ordPr at *
  by_cases h10 : i = 10
  · subst h10
    simp only [Nat.reduceEqDiff, if_false, if_true] at h ⊢
    obtain ⟨b, e, hb, c0, c1⟩ := h
    exact ⟨b, e, Nat.lt_of_lt_of_le hb k.size, by rw [k.cell (p := ⟨b, 0, none⟩) hb]; exact c0, by rw [k.cell (p := ⟨b, 1, none⟩) hb]; exact c1⟩
  · simp only [h10, if_false] at h ⊢
    exact h
set_option maxHeartbeats 2000000 in
set_option maxRecDepth 100000 in
theorem implOrder (a b : Rt) (w : World) :
    Calls Tryz.prog 213 #[a.val, b.val] w fun e w' => e = .returned (.int .i64 (ordV a b)) ∧ Below w.heap.size w w' := by
  unfold ordV Rt.val
  obtain ⟨n1, b1, h1⟩ := a
  obtain ⟨n2, b2, h2⟩ := b
  simp only []
  have C := fun w => implCompare n1 n2 w
  have D := fun w => implCompare b1 b2 w
  have O := fun w b c0 c1 => implOr (cmpV n1 n2) (cmpV b1 b2) w b c0 c1
  generalize cmpV n1 n2 = x at C O ⊢
  generalize cmpV b1 b2 = y at D O ⊢
  generalize (if x = 0 then y else x) = z at O ⊢
  go_enter Tryz.func213, Tryz.ntmps213
  go_wp2_with fail
  rename_i Q1 K1 hK1
  obtain ⟨W, hW⟩ : ∃ W, W = ((w.alloc (.cells #[.int .i64 n1, .int .i64 b1, .int .i64 h1] 132)).alloc (.cells #[.int .i64 n2, .int .i64 b2, .int .i64 h2] 132)) := ⟨_, rfl⟩
  have cA0 : W.cell? ⟨w.heap.size, 0, none⟩ = some (.int .i64 n1) := by rw [hW]; simp
  have cA1 : W.cell? ⟨w.heap.size, 1, none⟩ = some (.int .i64 b1) := by rw [hW]; simp
  have cB0 : W.cell? ⟨w.heap.size + 1, 0, none⟩ = some (.int .i64 n2) := by rw [hW]; simp
  have cB1 : W.cell? ⟨w.heap.size + 1, 1, none⟩ = some (.int .i64 b2) := by rw [hW]; simp
  have hS : w.heap.size + 2 = W.heap.size := by rw [hW]; simp
  have hBW : Below w.heap.size w W := by rw [hW]; exact bel_alloc ((Below.refl _ _).alloc (Nat.le_refl _) _) (Nat.le_refl _) _
  rw [← hW]
  clear hW
  refine region_draws (by kernel_rfl) (by kernel_rfl) (by kernel_rfl) (by kernel_rfl) (fun w' => Below W.heap.size W w') (fun x y => Below x.heap.size x y) (ordPr w.heap.size n1 n2 b1 b2 x y z) ordPr_keep ?h0 ?step ?last
  case h0 => exact (Below.refl _ _).drew
  case step =>
    intro i o hi ho a w2 hk hI hp
    have t2 : a.tmps.getD 2 undef = .pointer (some ⟨w.heap.size, 0, none⟩) := hk.slot 2 (by kernel_rfl)
    have t3 : a.tmps.getD 3 undef = .pointer (some ⟨w.heap.size + 1, 0, none⟩) := hk.slot 3 (by kernel_rfl)
    have t2' : a.tmps[2]?.getD undef = .pointer (some ⟨w.heap.size, 0, none⟩) := by simpa using t2
    have t3' : a.tmps[3]?.getD undef = .pointer (some ⟨w.heap.size + 1, 0, none⟩) := by simpa using t3
    have dA0 := cell_of_below hI (show (⟨w.heap.size, 0, none⟩ : Addr).block < _ by show w.heap.size < _; omega) cA0
    have dA1 := cell_of_below hI (show (⟨w.heap.size, 1, none⟩ : Addr).block < _ by show w.heap.size < _; omega) cA1
    have dB0 := cell_of_below hI (show (⟨w.heap.size + 1, 0, none⟩ : Addr).block < _ by show w.heap.size + 1 < _; omega) cB0
    have dB1 := cell_of_below hI (show (⟨w.heap.size + 1, 1, none⟩ : Addr).block < _ by show w.heap.size + 1 < _; omega) cB1
    have hcases : i = 0 ∨ i = 1 ∨ i = 2 ∨ i = 3 ∨ i = 4 ∨ i = 5 ∨ i = 6 ∨ i = 7 ∨ i = 8 ∨ i = 9 ∨ i = 10 ∨ i = 11 := by
      have : i + 1 < 13 := hi
      omega
    rcases hcases with rfl | rfl | rfl | rfl | rfl | rfl | rfl | rfl | rfl | rfl | rfl | rfl
    · cases ho
      refine ⟨rfl, ?_⟩
      unfold Oper.wp
      simp [go_sem, t2']
      exact ⟨_, rfl, Below.refl _ _, hI, rfl⟩
    · cases ho
      have e : a.tmps[5]?.getD undef = .pointer (some ⟨w.heap.size, 0, none⟩) := by simpa [ordPr] using hp ⟨0, .data⟩ 5 (by simp) rfl rfl
      refine ⟨rfl, ?_⟩
      unfold Oper.wp
      simp [go_sem, e, dA0]
      exact ⟨_, rfl, Below.refl _ _, hI, rfl⟩
    · cases ho
      refine ⟨rfl, ?_⟩
      unfold Oper.wp
      simp [go_sem, t3']
      exact ⟨_, rfl, Below.refl _ _, hI, rfl⟩
    · cases ho
      have e : a.tmps[7]?.getD undef = .pointer (some ⟨w.heap.size + 1, 0, none⟩) := by simpa [ordPr] using hp ⟨2, .data⟩ 7 (by simp) rfl rfl
      refine ⟨rfl, ?_⟩
      unfold Oper.wp
      simp [go_sem, e, dB0]
      exact ⟨_, rfl, Below.refl _ _, hI, rfl⟩
    · cases ho
      have e1 : a.tmps[6]?.getD undef = .int .i64 n1 := by simpa [ordPr] using hp ⟨1, .data⟩ 6 (by simp) rfl rfl
      have e2 : a.tmps[8]?.getD undef = .int .i64 n2 := by simpa [ordPr] using hp ⟨3, .data⟩ 8 (by simp) rfl rfl
      exact ⟨rfl, op_call (by simp [execOp, resolve, Deferred.ofValue, invoke, Act.eval, e1, e2]) (C _) ⟨_, rfl, Below.refl _ _, hI, rfl⟩⟩
    · cases ho
      refine ⟨rfl, ?_⟩
      unfold Oper.wp
      simp [go_sem, t2']
      exact ⟨_, rfl, Below.refl _ _, hI, rfl⟩
    · cases ho
      have e : a.tmps[10]?.getD undef = .pointer (some ⟨w.heap.size, 1, none⟩) := by simpa [ordPr] using hp ⟨5, .data⟩ 10 (by simp) rfl rfl
      refine ⟨rfl, ?_⟩
      unfold Oper.wp
      simp [go_sem, e, dA1]
      exact ⟨_, rfl, Below.refl _ _, hI, rfl⟩
    · cases ho
      refine ⟨rfl, ?_⟩
      unfold Oper.wp
      simp [go_sem, t3']
      exact ⟨_, rfl, Below.refl _ _, hI, rfl⟩
    · cases ho
      have e : a.tmps[12]?.getD undef = .pointer (some ⟨w.heap.size + 1, 1, none⟩) := by simpa [ordPr] using hp ⟨7, .data⟩ 12 (by simp) rfl rfl
      refine ⟨rfl, ?_⟩
      unfold Oper.wp
      simp [go_sem, e, dB1]
      exact ⟨_, rfl, Below.refl _ _, hI, rfl⟩
    · cases ho
      have e1 : a.tmps[11]?.getD undef = .int .i64 b1 := by simpa [ordPr] using hp ⟨6, .data⟩ 11 (by simp) rfl rfl
      have e2 : a.tmps[13]?.getD undef = .int .i64 b2 := by simpa [ordPr] using hp ⟨8, .data⟩ 13 (by simp) rfl rfl
      exact ⟨rfl, op_call (by simp [execOp, resolve, Deferred.ofValue, invoke, Act.eval, e1, e2]) (D _) ⟨_, rfl, Below.refl _ _, hI, rfl⟩⟩
    · cases ho
      have e1 : a.tmps[9]?.getD undef = .int .i64 x := by simpa [ordPr] using hp ⟨4, .data⟩ 9 (by simp) rfl rfl
      have e2 : a.tmps[14]?.getD undef = .int .i64 y := by simpa [ordPr] using hp ⟨9, .data⟩ 14 (by simp) rfl rfl
      refine ⟨rfl, ?_⟩
      unfold Oper.wp
      simp [go_sem, e1, e2]
      exact ⟨_, rfl, (Below.refl _ _).alloc (Nat.le_refl _) _, hI.alloc hI.size _, w2.heap.size, rfl, by simp, by simp, by simp⟩
    · cases ho
      obtain ⟨b, e, hb, c0, c1⟩ := hp ⟨10, .data⟩ 15 (by simp) rfl rfl
      have e' : a.tmps[15]?.getD undef = .slice (some ⟨b, 0, none⟩) 2 2 := by simpa using e
      exact ⟨rfl, op_call (by simp [execOp, resolve, Deferred.ofValue, invoke, Act.eval, e']) (O _ _ c0 c1) ⟨_, rfl, Below.refl _ _, hI, rfl⟩⟩
  case last =>
    intro o ho a w2 hk hI hp
    cases ho
    have e : a.tmps[16]?.getD undef = .int .i64 z := by simpa [ordPr] using hp 11 16 (by decide) rfl
    refine ⟨rfl, ?_⟩
    unfold Oper.wp
    simp [go_sem, e]
    refine hK1 _ _ ?_
    clear hp
    go_wp2
    have hsz : a.tmps.size = 17 := hk.size
    have hv : (a.tmps.setIfInBounds 4 (.int .i64 z)).getD 4 undef = .int .i64 z := by
      rw [Array.getD_eq_getD_getElem?, Array.getElem?_setIfInBounds, if_pos rfl, if_pos (by omega)]
      rfl
    refine bodyPost_ret (results_tmp rfl _ _ _) hk.defers ⟨?_, hBW.trans (hI.mono (by omega))⟩
    show Ending.returned ((a.tmps.setIfInBounds 4 (.int .i64 z)).getD 4 undef) = _
    rw [hv]
end Go.Proofs.YtgebghkcikmfaaaGreatDoor

/-
  The walks of RoutesOk, the program's and the model's. By the verifier.
-/
namespace Go.Proofs.YtgebghkcikmfaaaGreatDoor
open Go.RowKit

theorem ordV_lt (a b : Rt) : decide (ordV a b < 0) = a.lt b := by
  rw [Bool.eq_iff_iff, decide_eq_true_iff]
  unfold Rt.lt
  rw [decide_eq_true_iff]
  unfold ordV cmpV
  by_cases h1 : a.net < b.net <;> by_cases h2 : b.net < a.net <;> by_cases h3 : a.bits < b.bits <;> by_cases h4 : b.bits < a.bits <;> simp [h1, h2, h3, h4] <;> omega

set_option maxHeartbeats 1600000 in
theorem implOk (a0 : Option Addr) (cap : Nat) (l : List Rt) (w : World) (hT : l.length ≤ 1048576) (h : Hid (RtsAt w a0 l)) :
    Calls Tryz.prog 150 #[.slice a0 l.length cap] w fun e w' => e = .returned (.bool (rtsOk l)) ∧ Below w.heap.size w w' := by
  have Hok : Hid (rtsOk l = (decide (l.length ≤ 64) && goodTo l l.length)) := rfl
  obtain ⟨len, hlen⟩ : ∃ n, l.length = n := ⟨_, rfl⟩
  rw [hlen] at hT ⊢
  have Hlen : Hid (l.length = len) := hlen
  clear hlen
  by_cases h64 : 64 < len
  · have e : rtsOk l = false := by rw [Hok.out, Hlen.out]; simp; omega
    rw [e]
    clear e Hok
    go_enter Tryz.func150, Tryz.ntmps150
    go_wp2
    go_ret
    exact ⟨rfl, Below.refl _ _⟩
  have e : Hid (rtsOk l = goodTo l len) := by
    show rtsOk l = goodTo l len
    rw [Hok.out, Hlen.out]
    simp; omega
  clear Hok
  go_enter Tryz.func150, Tryz.ntmps150
  go_wp2
  go_loopw [10] (fun i wr => ∃ k : Nat, k ≤ len ∧ i = .int .i64 k ∧ Hid (goodTo l k = true) ∧ Hid (Below w.heap.size w wr)) (fun i _ => len - (intOf i).toNat)
  case atStart => exact ⟨0, Nat.zero_le _, rfl, rfl, Below.refl _ _⟩
  case round =>
    obtain ⟨k, hk, rfl, hg, hb⟩ := hrel
    by_cases hlt : k < len
    · have R : Hid (RtsAt wr a0 l) := h.out.below hb.out
      obtain ⟨b1, o1, ha1, hb1, -⟩ := R.out k (by rw [Hlen.out]; exact hlt)
      subst ha1
      have hc := cells_at R.out (k := k) (by rw [Hlen.out]; exact hlt)
      have hn := goodTo_succ l k
      have hh := fun g => goodTo_hit (l := l) (k := k) (n := len) hlt g
      have hgd : good l k = ((rtAt l k).ok && (decide (k = 0) || (rtAt l (k - 1)).lt (rtAt l k))) := rfl
      obtain ⟨W1, hW1⟩ : ∃ W, W = wr.alloc (.cells #[.int .i64 (rtAt l k).net, .int .i64 (rtAt l k).bits, .int .i64 (rtAt l k).hop] 132) := ⟨_, rfl⟩
      have hW1s : W1.heap.size = wr.heap.size + 1 := by rw [hW1]; simp
      have B1 : Hid (Below w.heap.size w W1) := by rw [hW1]; exact hb.out.alloc hb.out.size _
      have R1 : Hid (RtsAt W1 (some ⟨b1, o1, none⟩) l) := by rw [hW1]; exact R.out.alloc _
      have d0 : W1.cell? ⟨wr.heap.size, 0, none⟩ = some (.int .i64 (rtAt l k).net) := by rw [hW1]; simp
      have d1 : W1.cell? ⟨wr.heap.size, 1, none⟩ = some (.int .i64 (rtAt l k).bits) := by rw [hW1]; simp
      have d2 : W1.cell? ⟨wr.heap.size, 2, none⟩ = some (.int .i64 (rtAt l k).hop) := by rw [hW1]; simp
      have f0 := fun p : BelW W1.heap.size W1 => cell_of_below p.h (show (⟨wr.heap.size, 0, none⟩ : Addr).block < _ by show wr.heap.size < _; omega) d0
      have f1 := fun p : BelW W1.heap.size W1 => cell_of_below p.h (show (⟨wr.heap.size, 1, none⟩ : Addr).block < _ by show wr.heap.size < _; omega) d1
      have f2 := fun p : BelW W1.heap.size W1 => cell_of_below p.h (show (⟨wr.heap.size, 2, none⟩ : Addr).block < _ by show wr.heap.size < _; omega) d2
      have C := fun w => implRoute (rtAt l k) w
      have O := fun w => implOrder (rtAt l (k - 1)) (rtAt l k) w
      have hord := ordV_lt (rtAt l (k - 1)) (rtAt l k)
      have HW1 : Hid (W1 = _) := hW1
      have Hn : Hid _ := hn
      have Hh : Hid _ := hh
      have Hgd : Hid _ := hgd
      clear hW1 hn hh hgd d0 d1 d2 hW1s
      have hlt' : (k : Int) < (len : Int) := by omega
      haveI : Nonempty (BelW W1.heap.size W1) := ⟨⟨W1, Below.refl _ _⟩⟩
      cases hok : (rtAt l k).ok
      · rw [hok] at C
        have hbad : Hid (goodTo l len = false) := Hh.out (by rw [Hgd.out, hok]; rfl)
        clear hok Hn Hh Hgd O hord
        unfold Rt.val at C
        generalize rtAt l k = r at hc HW1 f0 f1 f2 C
        obtain ⟨hc0, hc1, hc2⟩ := hc
        go_wp2
        rw [← HW1.out]
        refine region_below W1.heap.size (by kernel_rfl) (by kernel_rfl) ?_
        repeat (go_big_quiet_step ((go_at_call 212; refine quiet_below (Nat.le_refl _) (C _))))
        refine wpQuiet_nil ?_
        intro wq hx
        have hq := BelW.out hx
        have B : Hid (Below w.heap.size w wq) := B1.out.trans (hq.mono B1.out.size)
        clear hx hq f0 f1 f2
        go_wp2
        go_ret
        exact ⟨ret_bool (by rw [e.out, hbad.out]), B.out⟩
      rw [hok] at C
      by_cases hk0 : k = 0
      · have hgood : Hid (goodTo l (k + 1) = true) := by
          show goodTo l (k + 1) = true
          rw [Hn.out, hg.out, Hgd.out, hok]; simp [hk0]
        clear hok Hn Hh Hgd O hord
        unfold Rt.val at C
        generalize rtAt l k = r at hc HW1 f0 f1 f2 C
        obtain ⟨hc0, hc1, hc2⟩ := hc
        subst hk0
        simp only [Nat.zero_mul, Nat.add_zero] at hc0 hc1 hc2
        go_wp2
        rw [← HW1.out]
        refine region_below W1.heap.size (by kernel_rfl) (by kernel_rfl) ?_
        repeat (go_big_quiet_step ((go_at_call 212; refine quiet_below (Nat.le_refl _) (C _))))
        refine wpQuiet_nil ?_
        intro wq hx
        have hq := BelW.out hx
        have B : Hid (Below w.heap.size w wq) := B1.out.trans (hq.mono B1.out.size)
        clear hx hq f0 f1 f2
        go_wp2
        go_roundw
        case rel => exact ⟨0 + 1, by omega, by go_num, hgood, B⟩
        case measure => simp [intOf]; omega
      · obtain ⟨j, rfl⟩ : ∃ j, k = j + 1 := ⟨k - 1, by omega⟩
        have g0 := fun p : BelW W1.heap.size W1 => (cells_at (R1.out.below p.h) (k := j) (by rw [Hlen.out]; omega)).1
        have g1 := fun p : BelW W1.heap.size W1 => (cells_at (R1.out.below p.h) (k := j) (by rw [Hlen.out]; omega)).2.1
        have g2 := fun p : BelW W1.heap.size W1 => (cells_at (R1.out.below p.h) (k := j) (by rw [Hlen.out]; omega)).2.2
        have hj0 : (0 : Int) < (j : Int) + 1 := by omega
        have hjl : (j : Int) < (len : Int) := by omega
        simp only [Nat.add_sub_cancel] at O hord Hgd
        have hgd2 : Hid (good l (j + 1) = decide (ordV (rtAt l j) (rtAt l (j + 1)) < 0)) := by
          show good l (j + 1) = decide (ordV (rtAt l j) (rtAt l (j + 1)) < 0)
          rw [Hgd.out, hok, hord]; simp
        clear hok Hgd hord
        generalize ordV (rtAt l j) (rtAt l (j + 1)) = z at O hgd2
        unfold Rt.val at C O
        generalize rtAt l (j + 1) = r at hc HW1 f0 f1 f2 C O
        generalize rtAt l j = r2 at g0 g1 g2 O
        obtain ⟨hc0, hc1, hc2⟩ := hc
        by_cases hz : z < 0
        · have hgood : Hid (goodTo l (j + 1 + 1) = true) := by
            show goodTo l (j + 1 + 1) = true
            rw [Hn.out, hg.out, hgd2.out]; simp [hz]
          clear Hn Hh hgd2
          have hz' : ¬ (0 ≤ z) := by omega
          go_wp2
          rw [← HW1.out]
          refine region_below W1.heap.size (by kernel_rfl) (by kernel_rfl) ?_
          repeat (go_big_quiet_step ((first | (go_at_call 212; refine quiet_below (Nat.le_refl _) (C _)) | (go_at_call 213; refine quiet_below (Nat.le_refl _) (O _)))))
          refine wpQuiet_nil ?_
          intro wq hx
          have hq := BelW.out hx
          have B : Hid (Below w.heap.size w wq) := B1.out.trans (hq.mono B1.out.size)
          clear hx hq f0 f1 f2 g0 g1 g2
          go_wp2
          go_roundw
          case rel => exact ⟨j + 1 + 1, by omega, by go_num, hgood, B⟩
          case measure => simp [intOf]; omega
        · have hbad : Hid (goodTo l len = false) := Hh.out (by rw [hgd2.out]; simp [hz])
          clear Hn Hh hgd2
          have hz' : 0 ≤ z := by omega
          go_wp2
          rw [← HW1.out]
          refine region_below W1.heap.size (by kernel_rfl) (by kernel_rfl) ?_
          repeat (go_big_quiet_step ((first | (go_at_call 212; refine quiet_below (Nat.le_refl _) (C _)) | (go_at_call 213; refine quiet_below (Nat.le_refl _) (O _)))))
          refine wpQuiet_nil ?_
          intro wq hx
          have hq := BelW.out hx
          have B : Hid (Below w.heap.size w wq) := B1.out.trans (hq.mono B1.out.size)
          clear hx hq f0 f1 f2 g0 g1 g2
          go_wp2
          go_ret
          exact ⟨ret_bool (by rw [e.out, hbad.out]), B.out⟩
    · obtain rfl : k = len := by omega
      go_wp2
      go_ret
      exact ⟨ret_bool (by rw [e.out, hg.out]), hb.out⟩
end Go.Proofs.YtgebghkcikmfaaaGreatDoor

/-
  The walks of HopOf, the program's and the model's. By the verifier.
-/
namespace Go.Proofs.YtgebghkcikmfaaaGreatDoor
open Go.RowKit

/-- What HopOf answers. -/
def hopV (l : List Rt) (addr : Int) : Int := if rtsOk l = true ∧ inB 0 4294967295 addr = true then hopL l addr else -1

set_option maxHeartbeats 800000 in
theorem implHop (a : Option Addr) (cap : Nat) (l : List Rt) (addr : Int) (w : World) (hT : l.length ≤ 1048576) (hcap : l.length ≤ cap) (h : Hid (RtsAt w a l)) :
    Calls Tryz.prog 131 #[.slice a l.length cap, .int .i64 addr] w fun e w' => e = .returned (.int .i64 (hopV l addr)) ∧ Below w.heap.size w w' := by
  have C := fun w h => implOk a cap l w hT h
  have D := fun (w : World) => implUpTo1 4294967295 addr w w.heap.size rfl
  cases hok : rtsOk l
  · have hv : hopV l addr = -1 := by unfold hopV; rw [if_neg (by simp [hok])]
    rw [hv]
    rw [hok] at C
    have C' : Hid _ := C
    clear C D hok hv
    generalize l.length = len at C' ⊢
    go_enter Tryz.func131, Tryz.ntmps131
    go_wp2_with fail
    refine (C'.out _ h).mono ?_
    rintro e w1 ⟨rfl, b1⟩
    have B : Hid (Below w.heap.size w w1) := b1
    clear b1
    go_wp2
    go_ret
    exact ⟨rfl, B.out⟩
  · rw [hok] at C
    cases ha : inB 0 4294967295 addr
    · have hv : hopV l addr = -1 := by unfold hopV; rw [if_neg (by simp [ha])]
      rw [hv]
      rw [ha] at D
      have C' : Hid _ := C
      clear C hok hv ha
      generalize l.length = len at C' ⊢
      go_enter Tryz.func131, Tryz.ntmps131
      go_wp2_with fail
      refine (C'.out _ h).mono ?_
      rintro e w1 ⟨rfl, b1⟩
      have B : Hid (Below w.heap.size w w1) := b1
      clear b1
      go_wp2_with fail
      refine (D _).mono ?_
      rintro e w' ⟨rfl, rfl⟩
      go_wp2
      go_ret
      exact ⟨rfl, B.out.alloc B.out.size _⟩
    · have hv : hopV l addr = hopL l addr := by unfold hopV; rw [if_pos ⟨hok, ha⟩]
      rw [hv]
      rw [ha] at D
      have ht := trieOk_of hok
      have h64 : l.length ≤ 64 := by
        unfold rtsOk at hok
        rw [Bool.and_eq_true, decide_eq_true_iff] at hok
        exact hok.1
      have ha' := inB_true.1 ha
      have T := fun w h => implTrie 32 0 rfl l a cap 0 w ht h64 hcap h
      have HA : Hid (∀ W v, Answers W v 0 0 (hopL l) → ∃ (g : FuncId) (cb : Array Value), v = .func (.func g) #[] cb ∧ Enters Tryz.prog g ∧ Calls Tryz.prog g (#[.int .i64 addr] ++ cb) W fun e w' => e = .returned (.int .i64 (hopL l addr)) ∧ w' = W) := by
        show ∀ W v, Answers W v 0 0 (hopL l) → _
        rintro W v ⟨g, cb, Dm, e, he, _, hc⟩
        refine ⟨g, cb, e, he, hc W addr ha'.1 ha'.2 ?_ fun _ _ => rfl⟩
        have : (2 : Int) ^ (32 - 0) = 4294967296 := by decide
        rw [this]; omega
      generalize hopL l addr = z at HA ⊢
      have C' : Hid _ := C
      have T' : Hid (∀ w, RtsAt w a l → Calls Tryz.prog 194 #[.slice a l.length cap, .int .i64 0] w fun e w' => (∃ v, e = .returned v ∧ Answers w' v 0 0 (hopL l)) ∧ Below w.heap.size w w') := T
      clear C T hok hv ha ht h64 hT hcap
      generalize l.length = len at C' T' ⊢
      go_enter Tryz.func131, Tryz.ntmps131
      go_wp2_with fail
      refine (C'.out _ h).mono ?_
      rintro e w1 ⟨rfl, b1⟩
      have B : Hid (Below w.heap.size w w1) := b1
      clear b1
      go_wp2_with fail
      refine (D _).mono ?_
      rintro e w' ⟨rfl, rfl⟩
      have B2 : Hid (Below w.heap.size w (w1.alloc (.cells #[.int .i64 addr] 2))) := B.out.alloc B.out.size _
      clear B
      generalize w1.alloc (.cells #[.int .i64 addr] 2) = w2 at B2 ⊢
      go_wp2_with fail
      refine (T'.out _ (h.out.below B2.out)).mono ?_
      rintro e w3 ⟨⟨v, rfl, ans⟩, b3⟩
      obtain ⟨g, cb, rfl, eg, hc⟩ := HA.out _ _ ans
      have B3 : Hid (Below w.heap.size w w3) := B2.out.trans (b3.mono B2.out.size)
      have eg' : ∀ args w, (callFunc g args).run Tryz.prog w = .ok (.enter g args) w := eg
      clear ans b3 B2 eg HA
      go_wp2_with (go_at_fn g; refine hc.mono ?_; rintro e w' ⟨rfl, rfl⟩)
      go_ret
      exact ⟨rfl, B3.out⟩
end Go.Proofs.YtgebghkcikmfaaaGreatDoor

/-
  The walk of the order of rules, the program's own. By the verifier.
-/
namespace Go.Proofs.YtgebghkcikmfaaaGreatDoor
open Go.RowKit

theorem ru_cell_below {w w' : World} {n : Nat} (h : Below n w w') {p : Addr} (hp : p.block < n) {v : Value} (c : w.cell? p = some v) : w'.cell? p = some v := by
  rw [h.cell hp]; exact c
/-- Less than nought where the one goes ahead. -/
def ruOrdV (a b : Ru) : Int := if cmpV b.prio a.prio = 0 then cmpV a.id b.id else cmpV b.prio a.prio
theorem ruOrd_ahead (a b : Ru) : decide (ruOrdV a b < 0) = a.ahead b := by
  unfold ruOrdV Ru.ahead cmpV
  rw [decide_eq_decide]
  (repeat' split) <;> omega

/-- What is known of each operation's value. -/
def ruOrdPr (B : Nat) (n1 n2 b1 b2 x y z : Int) : Nat → World → Value → Prop := fun i w v =>
  if i = 0 then v = .pointer (some ⟨B + 1, 1, none⟩) else if i = 1 then v = .int .i64 n1 else if i = 2 then v = .pointer (some ⟨B, 1, none⟩) else if i = 3 then v = .int .i64 n2 else if i = 4 then v = .int .i64 x
  else if i = 5 then v = .pointer (some ⟨B, 0, none⟩) else if i = 6 then v = .int .i64 b1 else if i = 7 then v = .pointer (some ⟨B + 1, 0, none⟩) else if i = 8 then v = .int .i64 b2 else if i = 9 then v = .int .i64 y
  else if i = 10 then ∃ b, v = .slice (some ⟨b, 0, none⟩) 2 2 ∧ b < w.heap.size ∧ w.cell? ⟨b, 0, none⟩ = some (.int .i64 x) ∧ w.cell? ⟨b, 1, none⟩ = some (.int .i64 y)
  else v = .int .i64 z
theorem ruOrdPr_keep {B : Nat} {n1 n2 b1 b2 x y z : Int} (i : Nat) (w w' : World) (v : Value) (h : ruOrdPr B n1 n2 b1 b2 x y z i w v) (k : Below w.heap.size w w') : ruOrdPr B n1 n2 b1 b2 x y z i w' v := by
  unfold ruOrdPr at *
  by_cases h10 : i = 10
  · subst h10
    simp only [Nat.reduceEqDiff, if_false, if_true] at h ⊢
    obtain ⟨b, e, hb, c0, c1⟩ := h
    exact ⟨b, e, Nat.lt_of_lt_of_le hb k.size, by rw [k.cell (p := ⟨b, 0, none⟩) hb]; exact c0, by rw [k.cell (p := ⟨b, 1, none⟩) hb]; exact c1⟩
  · simp only [h10, if_false] at h ⊢
    exact h

set_option maxHeartbeats 2000000 in
set_option maxRecDepth 100000 in
theorem implRuOrder (a b : Ru) (w : World) :
    Calls Tryz.prog 254 #[a.val, b.val] w fun e w' => e = .returned (.int .i64 (ruOrdV a b)) ∧ Below w.heap.size w w' := by
  unfold ruOrdV Ru.val
  obtain ⟨ai, ap, asn, asb, adn, adb, apr, alo, ahi, acl⟩ := a
  obtain ⟨bi, bp, bsn, bsb, bdn, bdb, bpr, blo, bhi, bcl⟩ := b
  simp only []
  have C := fun w => implCompare bp ap w
  have D := fun w => implCompare ai bi w
  have O := fun w b c0 c1 => implOr (cmpV bp ap) (cmpV ai bi) w b c0 c1
  generalize cmpV bp ap = x at C O ⊢
  generalize cmpV ai bi = y at D O ⊢
  generalize (if x = 0 then y else x) = z at O ⊢
  go_enter Tryz.func254, Tryz.ntmps254
  go_wp2_with fail
  rename_i Q1 K1 hK1
  obtain ⟨W, hW⟩ : ∃ W, W = ((w.alloc (.cells #[.int .i64 ai, .int .i64 ap, .int .i64 asn, .int .i64 asb, .int .i64 adn, .int .i64 adb, .int .i64 apr, .int .i64 alo, .int .i64 ahi, .int .i64 acl] 136)).alloc (.cells #[.int .i64 bi, .int .i64 bp, .int .i64 bsn, .int .i64 bsb, .int .i64 bdn, .int .i64 bdb, .int .i64 bpr, .int .i64 blo, .int .i64 bhi, .int .i64 bcl] 136)) := ⟨_, rfl⟩
  have cA0 : W.cell? ⟨w.heap.size, 0, none⟩ = some (.int .i64 ai) := by rw [hW]; simp
  have cA1 : W.cell? ⟨w.heap.size, 1, none⟩ = some (.int .i64 ap) := by rw [hW]; simp
  have cB0 : W.cell? ⟨w.heap.size + 1, 0, none⟩ = some (.int .i64 bi) := by rw [hW]; simp
  have cB1 : W.cell? ⟨w.heap.size + 1, 1, none⟩ = some (.int .i64 bp) := by rw [hW]; simp
  have hS : w.heap.size + 2 = W.heap.size := by rw [hW]; simp
  have hBW : Below w.heap.size w W := by rw [hW]; exact bel_alloc ((Below.refl _ _).alloc (Nat.le_refl _) _) (Nat.le_refl _) _
  rw [← hW]
  clear hW
  refine region_draws (by kernel_rfl) (by kernel_rfl) (by kernel_rfl) (by kernel_rfl) (fun w' => Below W.heap.size W w') (fun x y => Below x.heap.size x y) (ruOrdPr w.heap.size bp ap ai bi x y z) ruOrdPr_keep ?h0 ?step ?last
  case h0 => exact (Below.refl _ _).drew
  case step =>
    intro i o hi ho a w2 hk hI hp
    have t2 : a.tmps.getD 2 undef = .pointer (some ⟨w.heap.size, 0, none⟩) := hk.slot 2 (by kernel_rfl)
    have t3 : a.tmps.getD 3 undef = .pointer (some ⟨w.heap.size + 1, 0, none⟩) := hk.slot 3 (by kernel_rfl)
    have t2' : a.tmps[2]?.getD undef = .pointer (some ⟨w.heap.size, 0, none⟩) := by simpa using t2
    have t3' : a.tmps[3]?.getD undef = .pointer (some ⟨w.heap.size + 1, 0, none⟩) := by simpa using t3
    have dA0 := ru_cell_below hI (show (⟨w.heap.size, 0, none⟩ : Addr).block < _ by show w.heap.size < _; omega) cA0
    have dA1 := ru_cell_below hI (show (⟨w.heap.size, 1, none⟩ : Addr).block < _ by show w.heap.size < _; omega) cA1
    have dB0 := ru_cell_below hI (show (⟨w.heap.size + 1, 0, none⟩ : Addr).block < _ by show w.heap.size + 1 < _; omega) cB0
    have dB1 := ru_cell_below hI (show (⟨w.heap.size + 1, 1, none⟩ : Addr).block < _ by show w.heap.size + 1 < _; omega) cB1
    have hcases : i = 0 ∨ i = 1 ∨ i = 2 ∨ i = 3 ∨ i = 4 ∨ i = 5 ∨ i = 6 ∨ i = 7 ∨ i = 8 ∨ i = 9 ∨ i = 10 ∨ i = 11 := by
      have : i + 1 < 13 := hi
      omega
    rcases hcases with rfl | rfl | rfl | rfl | rfl | rfl | rfl | rfl | rfl | rfl | rfl | rfl
    · cases ho
      refine ⟨rfl, ?_⟩
      unfold Oper.wp
      simp [go_sem, t3']
      exact ⟨_, rfl, Below.refl _ _, hI, rfl⟩
    · cases ho
      have e : a.tmps[5]?.getD undef = .pointer (some ⟨w.heap.size + 1, 1, none⟩) := by simpa [ruOrdPr] using hp ⟨0, .data⟩ 5 (by simp) rfl rfl
      refine ⟨rfl, ?_⟩
      unfold Oper.wp
      simp [go_sem, e, dB1]
      exact ⟨_, rfl, Below.refl _ _, hI, rfl⟩
    · cases ho
      refine ⟨rfl, ?_⟩
      unfold Oper.wp
      simp [go_sem, t2']
      exact ⟨_, rfl, Below.refl _ _, hI, rfl⟩
    · cases ho
      have e : a.tmps[7]?.getD undef = .pointer (some ⟨w.heap.size, 1, none⟩) := by simpa [ruOrdPr] using hp ⟨2, .data⟩ 7 (by simp) rfl rfl
      refine ⟨rfl, ?_⟩
      unfold Oper.wp
      simp [go_sem, e, dA1]
      exact ⟨_, rfl, Below.refl _ _, hI, rfl⟩
    · cases ho
      have e1 : a.tmps[6]?.getD undef = .int .i64 bp := by simpa [ruOrdPr] using hp ⟨1, .data⟩ 6 (by simp) rfl rfl
      have e2 : a.tmps[8]?.getD undef = .int .i64 ap := by simpa [ruOrdPr] using hp ⟨3, .data⟩ 8 (by simp) rfl rfl
      exact ⟨rfl, op_call (by simp [execOp, resolve, Deferred.ofValue, invoke, Act.eval, e1, e2]) (C _) ⟨_, rfl, Below.refl _ _, hI, rfl⟩⟩
    · cases ho
      refine ⟨rfl, ?_⟩
      unfold Oper.wp
      simp [go_sem, t2']
      exact ⟨_, rfl, Below.refl _ _, hI, rfl⟩
    · cases ho
      have e : a.tmps[10]?.getD undef = .pointer (some ⟨w.heap.size, 0, none⟩) := by simpa [ruOrdPr] using hp ⟨5, .data⟩ 10 (by simp) rfl rfl
      refine ⟨rfl, ?_⟩
      unfold Oper.wp
      simp [go_sem, e, dA0]
      exact ⟨_, rfl, Below.refl _ _, hI, rfl⟩
    · cases ho
      refine ⟨rfl, ?_⟩
      unfold Oper.wp
      simp [go_sem, t3']
      exact ⟨_, rfl, Below.refl _ _, hI, rfl⟩
    · cases ho
      have e : a.tmps[12]?.getD undef = .pointer (some ⟨w.heap.size + 1, 0, none⟩) := by simpa [ruOrdPr] using hp ⟨7, .data⟩ 12 (by simp) rfl rfl
      refine ⟨rfl, ?_⟩
      unfold Oper.wp
      simp [go_sem, e, dB0]
      exact ⟨_, rfl, Below.refl _ _, hI, rfl⟩
    · cases ho
      have e1 : a.tmps[11]?.getD undef = .int .i64 ai := by simpa [ruOrdPr] using hp ⟨6, .data⟩ 11 (by simp) rfl rfl
      have e2 : a.tmps[13]?.getD undef = .int .i64 bi := by simpa [ruOrdPr] using hp ⟨8, .data⟩ 13 (by simp) rfl rfl
      exact ⟨rfl, op_call (by simp [execOp, resolve, Deferred.ofValue, invoke, Act.eval, e1, e2]) (D _) ⟨_, rfl, Below.refl _ _, hI, rfl⟩⟩
    · cases ho
      have e1 : a.tmps[9]?.getD undef = .int .i64 x := by simpa [ruOrdPr] using hp ⟨4, .data⟩ 9 (by simp) rfl rfl
      have e2 : a.tmps[14]?.getD undef = .int .i64 y := by simpa [ruOrdPr] using hp ⟨9, .data⟩ 14 (by simp) rfl rfl
      refine ⟨rfl, ?_⟩
      unfold Oper.wp
      simp [go_sem, e1, e2]
      exact ⟨_, rfl, (Below.refl _ _).alloc (Nat.le_refl _) _, hI.alloc hI.size _, w2.heap.size, rfl, by simp, by simp, by simp⟩
    · cases ho
      obtain ⟨b, e, hb, c0, c1⟩ := hp ⟨10, .data⟩ 15 (by simp) rfl rfl
      have e' : a.tmps[15]?.getD undef = .slice (some ⟨b, 0, none⟩) 2 2 := by simpa using e
      exact ⟨rfl, op_call (by simp [execOp, resolve, Deferred.ofValue, invoke, Act.eval, e']) (O _ _ c0 c1) ⟨_, rfl, Below.refl _ _, hI, rfl⟩⟩
  case last =>
    intro o ho a w2 hk hI hp
    cases ho
    have e : a.tmps[16]?.getD undef = .int .i64 z := by simpa [ruOrdPr] using hp 11 16 (by decide) rfl
    refine ⟨rfl, ?_⟩
    unfold Oper.wp
    simp [go_sem, e]
    refine hK1 _ _ ?_
    clear hp
    go_wp2
    have hsz : a.tmps.size = 17 := hk.size
    have hv : (a.tmps.setIfInBounds 4 (.int .i64 z)).getD 4 undef = .int .i64 z := by
      rw [Array.getD_eq_getD_getElem?, Array.getElem?_setIfInBounds, if_pos rfl, if_pos (by omega)]
      rfl
    refine bodyPost_ret (results_tmp rfl _ _ _) hk.defers ⟨?_, hBW.trans (hI.mono (by omega))⟩
    show Ending.returned ((a.tmps.setIfInBounds 4 (.int .i64 z)).getD 4 undef) = _
    rw [hv]
end Go.Proofs.YtgebghkcikmfaaaGreatDoor
