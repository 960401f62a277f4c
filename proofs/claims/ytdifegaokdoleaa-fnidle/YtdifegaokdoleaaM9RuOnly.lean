import Derived.Test.YtdifegaokdoleaaRuMatch
import Derived.Test.YtdifegaokdoleaaM5RtFitL
import Derived.Test.YtdifegaokdoleaaM2Box
/-
  The walks of the program's way to tell which covers which. By the verifier.
-/
namespace Go.Proofs.Ytdifegaokdoleaa
open Go.RowKit

theorem implNetCov {net bits : Int} (hn : netB net bits = true) {inner ib : Int} (a0 : 0 ≤ inner) (a1 : inner ≤ 4294967295) (w : World) :
    Calls Try.prog 63 #[.int .i64 net, .int .i64 bits, .int .i64 inner, .int .i64 ib] w fun e w' => e = .returned (.bool (decide (bits ≤ ib) && fitB net bits inner)) ∧ w' = w := by
  have C := fun w => implIn (netB_parts hn).1 (netB_parts hn).2.1 (netB_parts hn).2.2 (by unfold netB at hn; simp only [Bool.and_eq_true, decide_eq_true_eq] at hn; exact hn.2.2) a0 a1 w
  generalize fitB net bits inner = b at C ⊢
  clear hn a0 a1
  by_cases h : bits ≤ ib
  · rw [decide_eq_true h]
    go_enter Try.func63, Try.ntmps63
    go_wp2_with (go_at_call 77; refine (C _).mono ?_; rintro e w' ⟨rfl, rfl⟩)
    go_ret
    exact ⟨rfl, rfl⟩
  · rw [decide_eq_false h]
    go_enter Try.func63, Try.ntmps63
    go_wp2
    go_ret
    exact ⟨rfl, rfl⟩

/-- Both nets are addresses. -/
def Ru.inn (b : Ru) : Prop := (0 ≤ b.snet ∧ b.snet ≤ 4294967295) ∧ (0 ≤ b.dnet ∧ b.dnet ≤ 4294967295)
/-- As the program asks. -/
def Ru.cov (a b : Ru) : Bool := (decide (a.sbits ≤ b.sbits) && fitB a.snet a.sbits b.snet) && ((decide (a.dbits ≤ b.dbits) && fitB a.dnet a.dbits b.dnet) && ((decide (a.proto = -1) || decide (a.proto = b.proto)) && (decide (a.low ≤ b.low) && decide (b.high ≤ a.high))))
theorem Ru.ok_inn {b : Ru} (h : b.ok = true) : b.inn := ⟨(netB_parts (Ru.ok_nets h).1).2, (netB_parts (Ru.ok_nets h).2).2⟩
theorem Ru.ok_proto {a : Ru} (h : a.ok = true) : a.proto < 0 ↔ a.proto = -1 := by
  unfold Ru.ok at h
  simp only [Bool.and_eq_true, inB_true] at h
  obtain ⟨_, _, _, _, h5, _⟩ := h
  omega
theorem Ru.cov_wide {a : Ru} (h : a.ok = true) (b : Ru) : a.cov b = a.wide b := by
  have hp := Ru.ok_proto h
  unfold Ru.cov Ru.wide
  rw [Bool.eq_iff_iff]
  simp only [Bool.and_eq_true, Bool.or_eq_true, decide_eq_true_eq]
  rw [hp]
  constructor
  · rintro ⟨⟨h1, h2⟩, ⟨h3, h4⟩, h5, h6, h7⟩
    exact ⟨h1, h2, h3, h4, h5, h6, h7⟩
  · rintro ⟨h1, h2, h3, h4, h5, h6, h7⟩
    exact ⟨⟨h1, h2⟩, ⟨h3, h4⟩, h5, h6, h7⟩
/-- The narrowest one of a frame. -/
def onlyR (f : Fr) : Ru := ⟨0, 0, f.src, 32, f.dst, 32, f.proto, f.dport, f.dport, 0⟩
theorem only_inn {f : Fr} (h : f.ok = true) : (onlyR f).inn := by
  have b := Fr.ok_true.1 h
  exact ⟨b.2.2.2.1, b.2.2.2.2.1⟩
theorem Ru.cov_hits {a : Ru} (h : a.ok = true) (f : Fr) : a.cov (onlyR f) = a.hits f := by
  have hp := Ru.ok_proto h
  have h1 := inB_true.1 (netB_parts (Ru.ok_nets h).1).1
  have h2 := inB_true.1 (netB_parts (Ru.ok_nets h).2).1
  unfold Ru.cov Ru.hits onlyR
  rw [Bool.eq_iff_iff]
  simp only [Bool.and_eq_true, Bool.or_eq_true, decide_eq_true_eq, inB_true]
  rw [hp]
  constructor
  · rintro ⟨⟨_, h2⟩, ⟨_, h4⟩, h5, h6, h7⟩
    exact ⟨h2, h4, h5, h6, h7⟩
  · rintro ⟨h3, h4, h5, h6, h7⟩
    exact ⟨⟨h1.2, h3⟩, ⟨h2.2, h4⟩, h5, h6, h7⟩

set_option maxHeartbeats 3200000 in
set_option maxRecDepth 100000 in
theorem implCovers (a b : Ru) (ha : a.ok = true) (hb : b.inn) (w : World) :
    Calls Try.prog 37 #[a.val, b.val] w fun e w' => e = .returned (.bool (a.cov b)) ∧ w' = (w.alloc (.cells a.cells.toArray 32)).alloc (.cells b.cells.toArray 32) := by
  have A1 := fun w => implNetCov (Ru.ok_nets ha).1 (ib := b.sbits) hb.1.1 hb.1.2 w
  have A2 := fun w => implNetCov (Ru.ok_nets ha).2 (ib := b.dbits) hb.2.1 hb.2.2 w
  have Hok : Hid (a.cov b = ((decide (a.sbits ≤ b.sbits) && fitB a.snet a.sbits b.snet) && ((decide (a.dbits ≤ b.dbits) && fitB a.dnet a.dbits b.dnet) && ((decide (a.proto = -1) || decide (a.proto = b.proto)) && (decide (a.low ≤ b.low) && decide (b.high ≤ a.high)))))) := rfl
  generalize (decide (a.sbits ≤ b.sbits) && fitB a.snet a.sbits b.snet) = f1 at A1 Hok
  generalize (decide (a.dbits ≤ b.dbits) && fitB a.dnet a.dbits b.dnet) = f2 at A2 Hok
  clear ha hb
  obtain ⟨ai, ap, asn, asb, adn, adb, apr, alo, ahi, acl⟩ := a
  obtain ⟨bi, bp, bsn, bsb, bdn, bdb, bpr, blo, bhi, bcl⟩ := b
  generalize Ru.cov _ _ = ok at Hok ⊢
  simp only [Ru.val, Ru.cells] at Hok A1 A2 ⊢
  have A1' : Hid _ := A1
  have A2' : Hid _ := A2
  clear A1 A2
  go_enter Try.func37, Try.ntmps37
  go_wp2_with fail
  refine (A1'.out _).mono ?_
  rintro e w' ⟨rfl, rfl⟩
  cases f1
  · go_wp2
    go_ret
    exact ⟨ret_bool (by rw [Hok.out]; rfl), rfl⟩
  go_wp2_with fail
  refine (A2'.out _).mono ?_
  rintro e w' ⟨rfl, rfl⟩
  cases f2
  · go_wp2
    go_ret
    exact ⟨ret_bool (by rw [Hok.out]; rfl), rfl⟩
  have O2 : Hid (ok = ((decide (apr = -1) || decide (apr = bpr)) && (decide (alo ≤ blo) && decide (bhi ≤ ahi)))) := by show ok = _; rw [Hok.out]; rfl
  clear Hok A1' A2'
  by_cases h6 : apr = -1
  · have O3 : Hid (ok = (decide (alo ≤ blo) && decide (bhi ≤ ahi))) := by show ok = _; rw [O2.out, decide_eq_true h6]; rfl
    clear O2
    subst h6
    by_cases h4 : alo ≤ blo
    · have O4 : Hid (ok = decide (bhi ≤ ahi)) := by show ok = _; rw [O3.out, decide_eq_true h4]; rfl
      go_wp2
      go_ret
      exact ⟨ret_bool (by rw [O4.out]), rfl⟩
    · have O4 : Hid (ok = false) := by show ok = _; rw [O3.out, decide_eq_false h4]; rfl
      go_wp2
      go_ret
      exact ⟨ret_bool (by rw [O4.out]), rfl⟩
  · have h8 : (apr == -1) = false := by simp [h6]
    by_cases h7 : apr = bpr
    · have O3 : Hid (ok = (decide (alo ≤ blo) && decide (bhi ≤ ahi))) := by show ok = _; rw [O2.out, decide_eq_true h7]; simp
      clear O2
      subst h7
      by_cases h4 : alo ≤ blo
      · have O4 : Hid (ok = decide (bhi ≤ ahi)) := by show ok = _; rw [O3.out, decide_eq_true h4]; rfl
        go_wp2
        go_ret
        exact ⟨ret_bool (by rw [O4.out]), rfl⟩
      · have O4 : Hid (ok = false) := by show ok = _; rw [O3.out, decide_eq_false h4]; rfl
        go_wp2
        go_ret
        exact ⟨ret_bool (by rw [O4.out]), rfl⟩
    · have O3 : Hid (ok = false) := by show ok = _; rw [O2.out, decide_eq_false h6, decide_eq_false h7]; rfl
      have h9 : (apr == bpr) = false := by simp [h7]
      clear O2
      go_wp2
      go_ret
      exact ⟨ret_bool O3.out.symm, rfl⟩
theorem implCov (a b : Ru) (ha : a.ok = true) (hb : b.inn) (w : World) :
    Calls Try.prog 37 #[a.val, b.val] w fun e w' => e = .returned (.bool (a.cov b)) ∧ Below w.heap.size w w' :=
  (implCovers a b ha hb w).mono fun e w' (q : _ ∧ w' = _) => ⟨q.1, by rw [q.2]; exact ((Below.refl _ w).alloc (Nat.le_refl _) _).alloc (by simp) _⟩
end Go.Proofs.Ytdifegaokdoleaa

/-
  The walk of the program's narrowest rule of a frame. By the verifier.
-/
namespace Go.Proofs.Ytdifegaokdoleaa
open Go.RowKit

set_option maxHeartbeats 3200000 in
set_option maxRecDepth 100000 in
theorem implOnly (f : Fr) (a : Option Addr) (c : Nat) (w : World) :
    Calls Try.prog 33 #[f.val a c] w fun e w' => e = .returned (onlyR f).val ∧ Below w.heap.size w w' := by
  obtain ⟨f0, g1, ft, fs, fd, fp, sp, dp, mk, sm, fb⟩ := f
  simp only [Ru.val, Fr.val, onlyR]
  generalize ft.length = nf
  have HB : Hid (∀ x y : Obj, Below w.heap.size w ((w.alloc x).alloc y)) := fun x y => ((Below.refl _ w).alloc (Nat.le_refl _) _).alloc (by simp) _
  go_enter Try.func33, Try.ntmps33
  go_wp2
  refine bodyPost_ret (v := .agg #[.int .i64 0, .int .i64 0, .int .i64 fs, .int .i64 32, .int .i64 fd, .int .i64 32, .int .i64 fp, .int .i64 dp, .int .i64 dp, .int .i64 0]) (by simp [results, Try.results33, go_sem]) rfl ⟨rfl, ?_⟩
  repeat (first | exact HB.out _ _ | refine Below.setCell ?_ (by simp) _)
end Go.Proofs.Ytdifegaokdoleaa
