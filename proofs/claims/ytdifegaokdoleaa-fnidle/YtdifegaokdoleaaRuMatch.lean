/-
  The model's ways to tell whether a rule matches, goes ahead, is wider. By the verifier.
-/
import Derived.Test.YtdifegaokdoleaaM5RtFitL
import Derived.Test.YtdifegaokdoleaaFrOk
namespace Go.Proofs.Ytdifegaokdoleaa
open Go.RowKit

/-- It matches a frame. -/
def Ru.hits (r : Ru) (f : Fr) : Bool := fitB r.snet r.sbits f.src && (fitB r.dnet r.dbits f.dst && (decide (r.proto < 0 ∨ r.proto = f.proto) && inB r.low r.high f.dport))
/-- It goes ahead of another one. -/
def Ru.ahead (a b : Ru) : Bool := decide (b.prio < a.prio ∨ a.prio = b.prio ∧ a.id < b.id)
/-- It is wider than another one. -/
def Ru.wide (a b : Ru) : Bool := decide (a.sbits ≤ b.sbits) && (fitB a.snet a.sbits b.snet && (decide (a.dbits ≤ b.dbits) && (fitB a.dnet a.dbits b.dnet && (decide (a.proto < 0 ∨ a.proto = b.proto) && (decide (a.low ≤ b.low) && decide (b.high ≤ a.high))))))
theorem netB_parts {n b : Int} (h : netB n b = true) : inB 0 32 b = true ∧ 0 ≤ n ∧ n ≤ 4294967295 := by
  unfold netB at h
  rw [Bool.and_eq_true, Bool.and_eq_true] at h
  exact ⟨h.1, inB_true.1 h.2.1⟩
theorem Ru.ok_nets {r : Ru} (h : r.ok = true) : netB r.snet r.sbits = true ∧ netB r.dnet r.dbits = true := by
  unfold Ru.ok at h
  simp only [Bool.and_eq_true] at h
  exact ⟨h.2.2.1, h.2.2.2.1⟩

set_option maxHeartbeats 3200000 in
set_option maxRecDepth 100000 in
theorem specAhead (a b : Ru) (w : World) :
    Calls Try.prog 57 #[a.val, b.val] w fun e w' => e = .returned (.bool (a.ahead b)) ∧ w' = (w.alloc (.cells a.cells.toArray 32)).alloc (.cells b.cells.toArray 32) := by
  have Hok : Hid (a.ahead b = decide (b.prio < a.prio ∨ a.prio = b.prio ∧ a.id < b.id)) := rfl
  obtain ⟨ai, ap, asn, asb, adn, adb, apr, alo, ahi, acl⟩ := a
  obtain ⟨bi, bp, bsn, bsb, bdn, bdb, bpr, blo, bhi, bcl⟩ := b
  generalize Ru.ahead _ _ = ok at Hok ⊢
  simp only [Ru.val, Ru.cells] at Hok ⊢
  by_cases h1 : bp < ap
  · have e : Hid (ok = true) := by show ok = true; rw [Hok.out]; exact decide_eq_true (.inl h1)
    go_enter Try.func57, Try.ntmps57
    go_wp2
    go_ret
    exact ⟨ret_bool e.out.symm, rfl⟩
  · by_cases h2 : ap = bp
    · subst h2
      by_cases h3 : ai < bi
      · have e : Hid (ok = true) := by show ok = true; rw [Hok.out]; exact decide_eq_true (.inr ⟨rfl, h3⟩)
        go_enter Try.func57, Try.ntmps57
        go_wp2
        go_ret
        exact ⟨ret_bool e.out.symm, rfl⟩
      · have e : Hid (ok = false) := by show ok = false; rw [Hok.out]; exact decide_eq_false (by omega)
        go_enter Try.func57, Try.ntmps57
        go_wp2
        go_ret
        exact ⟨ret_bool e.out.symm, rfl⟩
    · have e : Hid (ok = false) := by show ok = false; rw [Hok.out]; exact decide_eq_false (by omega)
      have h3 : (ap == bp) = false := by simp [h2]
      go_enter Try.func57, Try.ntmps57
      go_wp2
      go_ret
      exact ⟨ret_bool e.out.symm, rfl⟩

set_option maxHeartbeats 6400000 in
set_option maxRecDepth 100000 in
theorem specWide (a b : Ru) (ha : a.ok = true) (hb : b.ok = true) (w : World) :
    Calls Try.prog 58 #[a.val, b.val] w fun e w' => e = .returned (.bool (a.wide b)) ∧ w' = (w.alloc (.cells a.cells.toArray 32)).alloc (.cells b.cells.toArray 32) := by
  have Hok : Hid (a.wide b = (decide (a.sbits ≤ b.sbits) && (fitB a.snet a.sbits b.snet && (decide (a.dbits ≤ b.dbits) && (fitB a.dnet a.dbits b.dnet && (decide (a.proto < 0 ∨ a.proto = b.proto) && (decide (a.low ≤ b.low) && decide (b.high ≤ a.high)))))))) := rfl
  have a1 := netB_parts (Ru.ok_nets ha).1
  have a2 := netB_parts (Ru.ok_nets ha).2
  have b1 := netB_parts (Ru.ok_nets hb).1
  have b2 := netB_parts (Ru.ok_nets hb).2
  have A1 := fun w => specFit (net := a.snet) a1.1 b1.2.1 b1.2.2 w
  have A2 := fun w => specFit (net := a.dnet) a2.1 b2.2.1 b2.2.2 w
  generalize fitB a.snet a.sbits b.snet = f1 at A1 Hok
  generalize fitB a.dnet a.dbits b.dnet = f2 at A2 Hok
  clear a1 a2 b1 b2 ha hb
  obtain ⟨ai, ap, asn, asb, adn, adb, apr, alo, ahi, acl⟩ := a
  obtain ⟨bi, bp, bsn, bsb, bdn, bdb, bpr, blo, bhi, bcl⟩ := b
  generalize Ru.wide _ _ = ok at Hok ⊢
  simp only [Ru.val, Ru.cells] at Hok A1 A2 ⊢
  have A1' : Hid _ := A1
  have A2' : Hid _ := A2
  clear A1 A2
  by_cases h1 : asb ≤ bsb
  rotate_left
  · have e : Hid (ok = false) := by show ok = false; rw [Hok.out, decide_eq_false h1]; rfl
    go_enter Try.func58, Try.ntmps58
    go_wp2
    go_ret
    exact ⟨ret_bool e.out.symm, rfl⟩
  have O1 : Hid (ok = (f1 && (decide (adb ≤ bdb) && (f2 && (decide (apr < 0 ∨ apr = bpr) && (decide (alo ≤ blo) && decide (bhi ≤ ahi))))))) := by show ok = _; rw [Hok.out, decide_eq_true h1]; rfl
  clear Hok
  go_enter Try.func58, Try.ntmps58
  go_wp2_with fail
  refine (A1'.out _).mono ?_
  rintro e w' ⟨rfl, rfl⟩
  cases f1
  · go_wp2
    go_ret
    exact ⟨ret_bool (by rw [O1.out]; rfl), rfl⟩
  by_cases h2 : adb ≤ bdb
  rotate_left
  · have e : Hid (ok = false) := by show ok = false; rw [O1.out, decide_eq_false h2]; rfl
    go_wp2
    go_ret
    exact ⟨ret_bool e.out.symm, rfl⟩
  have O2 : Hid (ok = (f2 && (decide (apr < 0 ∨ apr = bpr) && (decide (alo ≤ blo) && decide (bhi ≤ ahi))))) := by show ok = _; rw [O1.out, decide_eq_true h2]; rfl
  clear O1
  go_wp2_with fail
  refine (A2'.out _).mono ?_
  rintro e w' ⟨rfl, rfl⟩
  cases f2
  · go_wp2
    go_ret
    exact ⟨ret_bool (by rw [O2.out]; rfl), rfl⟩
  by_cases h4 : alo ≤ blo
  · by_cases h5 : bhi ≤ ahi
    · have O3 : Hid (ok = decide (apr < 0 ∨ apr = bpr)) := by show ok = _; rw [O2.out, decide_eq_true h4, decide_eq_true h5]; simp
      clear O2
      by_cases h6 : apr < 0
      · have e : Hid (ok = true) := by show ok = true; rw [O3.out]; exact decide_eq_true (.inl h6)
        go_wp2
        go_ret
        exact ⟨ret_bool e.out.symm, rfl⟩
      · by_cases h7 : apr = bpr
        · have e : Hid (ok = true) := by show ok = true; rw [O3.out]; exact decide_eq_true (.inr h7)
          subst h7
          go_wp2
          go_ret
          exact ⟨ret_bool e.out.symm, rfl⟩
        · have e : Hid (ok = false) := by show ok = false; rw [O3.out]; exact decide_eq_false (by omega)
          have h8 : (apr == bpr) = false := by simp [h7]
          go_wp2
          go_ret
          exact ⟨ret_bool e.out.symm, rfl⟩
    · have e : Hid (ok = false) := by show ok = false; rw [O2.out, decide_eq_false h5]; simp
      clear O2
      by_cases h6 : apr < 0
      · go_wp2
        go_ret
        exact ⟨ret_bool (by rw [e.out]; exact decide_eq_false (by omega)), rfl⟩
      · by_cases h7 : apr = bpr
        · subst h7
          go_wp2
          go_ret
          exact ⟨ret_bool (by rw [e.out]; exact decide_eq_false (by omega)), rfl⟩
        · have h8 : (apr == bpr) = false := by simp [h7]
          go_wp2
          go_ret
          exact ⟨ret_bool e.out.symm, rfl⟩
  · have e : Hid (ok = false) := by show ok = false; rw [O2.out, decide_eq_false h4]; simp
    clear O2
    by_cases h6 : apr < 0
    · go_wp2
      go_ret
      exact ⟨ret_bool e.out.symm, rfl⟩
    · by_cases h7 : apr = bpr
      · subst h7
        go_wp2
        go_ret
        exact ⟨ret_bool e.out.symm, rfl⟩
      · have h8 : (apr == bpr) = false := by simp [h7]
        go_wp2
        go_ret
        exact ⟨ret_bool e.out.symm, rfl⟩

set_option maxHeartbeats 6400000 in
set_option maxRecDepth 100000 in
theorem specHits (r : Ru) (f : Fr) (a : Option Addr) (c : Nat) (hr : r.ok = true) (hf : f.ok = true) (w : World) :
    Calls Try.prog 44 #[r.val, f.val a c] w fun e w' => e = .returned (.bool (r.hits f)) ∧ Below w.heap.size w w' := by
  have Hok : Hid (r.hits f = (fitB r.snet r.sbits f.src && (fitB r.dnet r.dbits f.dst && (decide (r.proto < 0 ∨ r.proto = f.proto) && inB r.low r.high f.dport)))) := rfl
  have a1 := netB_parts (Ru.ok_nets hr).1
  have a2 := netB_parts (Ru.ok_nets hr).2
  have b := Fr.ok_true.1 hf
  have A1 := fun w => specFit (net := r.snet) a1.1 b.2.2.2.1.1 b.2.2.2.1.2 w
  have A2 := fun w => specFit (net := r.dnet) a2.1 b.2.2.2.2.1.1 b.2.2.2.2.1.2 w
  have A3 := fun w => specIn f.dport r.low r.high w
  generalize fitB r.snet r.sbits f.src = f1 at A1 Hok
  generalize fitB r.dnet r.dbits f.dst = f2 at A2 Hok
  generalize inB r.low r.high f.dport = f3 at A3 Hok
  clear a1 a2 b hr hf
  obtain ⟨ai, ap, asn, asb, adn, adb, apr, alo, ahi, acl⟩ := r
  obtain ⟨f0, g1, ft, fs, fd, fp, sp, dp, mk, sm, fb⟩ := f
  generalize Ru.hits _ _ = ok at Hok ⊢
  simp only [Ru.val, Fr.val] at Hok A1 A2 A3 ⊢
  generalize ft.length = nf
  have A1' : Hid _ := A1
  have A2' : Hid _ := A2
  have A3' : Hid _ := A3
  clear A1 A2 A3
  have HB : Hid (∀ x y : Obj, Below w.heap.size w ((w.alloc x).alloc y)) := fun x y => ((Below.refl _ w).alloc (Nat.le_refl _) _).alloc (by simp) _
  go_enter Try.func44, Try.ntmps44
  go_wp2_with fail
  refine (A1'.out _).mono ?_
  rintro e w' ⟨rfl, rfl⟩
  cases f1
  · go_wp2
    go_ret
    exact ⟨ret_bool (by rw [Hok.out]; rfl), HB.out _ _⟩
  go_wp2_with fail
  refine (A2'.out _).mono ?_
  rintro e w' ⟨rfl, rfl⟩
  cases f2
  · go_wp2
    go_ret
    exact ⟨ret_bool (by rw [Hok.out]; rfl), HB.out _ _⟩
  have O2 : Hid (ok = (decide (apr < 0 ∨ apr = fp) && f3)) := by show ok = _; rw [Hok.out]; rfl
  clear Hok
  by_cases h6 : apr < 0
  · have O3 : Hid (ok = f3) := by show ok = _; rw [O2.out, decide_eq_true (.inl h6)]; rfl
    clear O2
    go_wp2_with fail
    refine (A3'.out _).mono ?_
    rintro e w' ⟨rfl, rfl⟩
    go_wp2
    go_ret
    exact ⟨ret_bool O3.out.symm, HB.out _ _⟩
  · by_cases h7 : apr = fp
    · have O3 : Hid (ok = f3) := by show ok = _; rw [O2.out, decide_eq_true (.inr h7)]; rfl
      clear O2
      subst h7
      go_wp2_with fail
      refine (A3'.out _).mono ?_
      rintro e w' ⟨rfl, rfl⟩
      go_wp2
      go_ret
      exact ⟨ret_bool O3.out.symm, HB.out _ _⟩
    · have O3 : Hid (ok = false) := by show ok = _; rw [O2.out, decide_eq_false (by omega)]; rfl
      have h8 : (apr == fp) = false := by simp [h7]
      clear O2
      go_wp2
      go_ret
      exact ⟨ret_bool O3.out.symm, HB.out _ _⟩
end Go.Proofs.Ytdifegaokdoleaa
