/-
  The walks of the program's Matches and Wider. By the verifier, by program.
-/
import Derived.Test.YtdifegaokdoleaaRuEach
import Derived.Test.YtdifegaokdoleaaM9RuOnly
import Derived.Test.YtdifegaokdoleaaRuTell
import Derived.Deep.RegionWith
namespace Go.Proofs.Ytdifegaokdoleaa
open Go.RowKit

theorem ints_bel {w w' : World} {a : Option Addr} {zs : List Int} (h : IntsAt w a zs) (g : Below w.heap.size w w') : IntsAt w' a zs := h.below g
/-- Rules in a new block. -/
theorem rus_new (w : World) (l : List Ru) (cs : Array Value) (B : Nat) (hB : B = w.heap.size) (hc : cs = (rucells l).toArray) : RusAt (w.alloc (.cells cs 32)) (some ⟨B, 0, none⟩) l := by
  subst hB
  subst hc
  intro k hk
  have g : ∀ j v, (rucells l)[j]? = some v → (w.alloc (.cells (rucells l).toArray 32)).cell? ⟨w.heap.size, j, none⟩ = some v := fun j v hv => (Boxed.new w _ _).cell j (by simpa using hv)
  obtain ⟨e0, e1, e2, e3, e4, e5, e6, e7, e8, e9⟩ := rucells_get l k hk
  exact ⟨w.heap.size, 0, rfl, by simp, by rw [Nat.zero_add]; exact g _ _ e0, by rw [Nat.zero_add]; exact g _ _ e1, by rw [Nat.zero_add]; exact g _ _ e2, by rw [Nat.zero_add]; exact g _ _ e3, by rw [Nat.zero_add]; exact g _ _ e4, by rw [Nat.zero_add]; exact g _ _ e5, by rw [Nat.zero_add]; exact g _ _ e6, by rw [Nat.zero_add]; exact g _ _ e7, by rw [Nat.zero_add]; exact g _ _ e8, by rw [Nat.zero_add]; exact g _ _ e9⟩

set_option maxHeartbeats 6400000 in
set_option maxRecDepth 100000 in
theorem implMatches (r : Ru) (f : Fr) (a : Option Addr) (c : Nat) (w : World) (hT : f.tags.length ≤ 1048576) (hc : Hid (IntsAt w a f.tags)) :
    Calls Try.prog 11 #[r.val, f.val a c] w fun e w' => e = .returned (.bool (matchV r f)) ∧ Below w.heap.size w w' := by
  have Hok : Hid (matchV r f = (r.ok && (f.ok && r.hits f))) := rfl
  have A1 := fun (w : World) (x : Option Addr) (cap : Nat) h => implEach x cap [r] w (by simp) h
  have A2 := fun (w : World) h => implFrameOk f a c w hT h
  have A3 := fun (w : World) => implOnly f a c w
  have A4 := fun (h1 : r.ok = true) (h2 : f.ok = true) (w : World) => implCov r (onlyR f) h1 (only_inn h2) w
  have Hc : Hid (r.ok = true → r.cov (onlyR f) = r.hits f) := fun h => Ru.cov_hits h f
  have N1 := fun (w : World) (B : Nat) (hB : B = w.heap.size) => rus_new w [r] r.cells.toArray B hB (by rw [rucells_cons, rucells_nil]; rfl)
  simp only [List.all_cons, List.all_nil, Bool.and_true, List.length_cons, List.length_nil] at A1
  generalize r.cov (onlyR f) = cv at A4 Hc
  generalize r.hits f = hv at Hc Hok
  generalize matchV r f = ok at Hok ⊢
  generalize r.ok = b1 at A1 A4 Hc Hok
  generalize f.ok = b2 at A2 A4 Hok
  obtain ⟨i, p, sn, sb, dn, db, pr, lo, hi, cl⟩ := r
  obtain ⟨f0, g1, ft, fs, fd, fp, sp, dp, mk, sm, fb⟩ := f
  simp only [Ru.val, Fr.val, Ru.cells, onlyR] at A1 A2 A3 A4 N1 hc hT ⊢
  obtain ⟨B, hB⟩ : ∃ B, B = w.heap.size := ⟨_, rfl⟩
  obtain ⟨nf, hnf⟩ : ∃ nf, ft.length = nf := ⟨_, rfl⟩
  rw [hnf] at A2 A3 hT ⊢
  obtain ⟨W, hW⟩ : ∃ W, W = (w.alloc (.cells #[.int .i64 i, .int .i64 p, .int .i64 sn, .int .i64 sb, .int .i64 dn, .int .i64 db, .int .i64 pr, .int .i64 lo, .int .i64 hi, .int .i64 cl] 32)).alloc (.cells #[.int .i64 f0, .int .i64 g1, .slice a nf c, .int .i64 fs, .int .i64 fd, .int .i64 fp, .int .i64 sp, .int .i64 dp, .int .i64 mk, .int .i64 sm, .string fb] 27) := ⟨_, rfl⟩
  have X0 : Hid (Below w.heap.size w W ∧ Boxed W B #[.int .i64 i, .int .i64 p, .int .i64 sn, .int .i64 sb, .int .i64 dn, .int .i64 db, .int .i64 pr, .int .i64 lo, .int .i64 hi, .int .i64 cl] 32 ∧ Boxed W (B + 1) #[.int .i64 f0, .int .i64 g1, .slice a nf c, .int .i64 fs, .int .i64 fd, .int .i64 fp, .int .i64 sp, .int .i64 dp, .int .i64 mk, .int .i64 sm, .string fb] 27 ∧ IntsAt W a ft) := by
    show Below w.heap.size w W ∧ Boxed W B #[.int .i64 i, .int .i64 p, .int .i64 sn, .int .i64 sb, .int .i64 dn, .int .i64 db, .int .i64 pr, .int .i64 lo, .int .i64 hi, .int .i64 cl] 32 ∧ Boxed W (B + 1) #[.int .i64 f0, .int .i64 g1, .slice a nf c, .int .i64 fs, .int .i64 fd, .int .i64 fp, .int .i64 sp, .int .i64 dp, .int .i64 mk, .int .i64 sm, .string fb] 27 ∧ IntsAt W a ft
    rw [hW, hB]
    exact ⟨((Below.refl _ w).alloc (Nat.le_refl _) _).alloc (by simp) _, (Boxed.new _ _ _).more _, by have := Boxed.new (w.alloc (.cells #[.int .i64 i, .int .i64 p, .int .i64 sn, .int .i64 sb, .int .i64 dn, .int .i64 db, .int .i64 pr, .int .i64 lo, .int .i64 hi, .int .i64 cl] 32)) #[.int .i64 f0, .int .i64 g1, .slice a nf c, .int .i64 fs, .int .i64 fd, .int .i64 fp, .int .i64 sp, .int .i64 dp, .int .i64 mk, .int .i64 sm, .string fb] 27; simpa using this, (hc.out.alloc _).alloc _⟩
  have A1' : Hid _ := A1
  have A2' : Hid _ := A2
  have A3' : Hid _ := A3
  have A4' : Hid _ := A4
  have N1' : Hid _ := N1
  have hbel : Hid (∀ (W : World) (o : Obj), Below W.heap.size W (W.alloc o).drew) := fun W o => ((Below.refl _ _).alloc (Nat.le_refl _) _).drew
  clear A1 A2 A3 A4 N1 hc
  go_enter Try.func11, Try.ntmps11
  go_wp2_with fail
  rw [← hW, ← hB]
  have HB : Hid (B = w.heap.size) := hB
  clear hB hW hnf
  have xW_0 : W.cell? ⟨B, 0, none⟩ = some (.int .i64 i) := X0.out.2.1.cell 0 rfl
  have xW_1 : W.cell? ⟨B, 1, none⟩ = some (.int .i64 p) := X0.out.2.1.cell 1 rfl
  have xW_2 : W.cell? ⟨B, 2, none⟩ = some (.int .i64 sn) := X0.out.2.1.cell 2 rfl
  have xW_3 : W.cell? ⟨B, 3, none⟩ = some (.int .i64 sb) := X0.out.2.1.cell 3 rfl
  have xW_4 : W.cell? ⟨B, 4, none⟩ = some (.int .i64 dn) := X0.out.2.1.cell 4 rfl
  have xW_5 : W.cell? ⟨B, 5, none⟩ = some (.int .i64 db) := X0.out.2.1.cell 5 rfl
  have xW_6 : W.cell? ⟨B, 6, none⟩ = some (.int .i64 pr) := X0.out.2.1.cell 6 rfl
  have xW_7 : W.cell? ⟨B, 7, none⟩ = some (.int .i64 lo) := X0.out.2.1.cell 7 rfl
  have xW_8 : W.cell? ⟨B, 8, none⟩ = some (.int .i64 hi) := X0.out.2.1.cell 8 rfl
  have xW_9 : W.cell? ⟨B, 9, none⟩ = some (.int .i64 cl) := X0.out.2.1.cell 9 rfl
  have yW_0 : W.cell? ⟨B + 1, 0, none⟩ = some (.int .i64 f0) := X0.out.2.2.1.cell 0 rfl
  have yW_1 : W.cell? ⟨B + 1, 1, none⟩ = some (.int .i64 g1) := X0.out.2.2.1.cell 1 rfl
  have yW_2 : W.cell? ⟨B + 1, 2, none⟩ = some (.slice a nf c) := X0.out.2.2.1.cell 2 rfl
  have yW_3 : W.cell? ⟨B + 1, 3, none⟩ = some (.int .i64 fs) := X0.out.2.2.1.cell 3 rfl
  have yW_4 : W.cell? ⟨B + 1, 4, none⟩ = some (.int .i64 fd) := X0.out.2.2.1.cell 4 rfl
  have yW_5 : W.cell? ⟨B + 1, 5, none⟩ = some (.int .i64 fp) := X0.out.2.2.1.cell 5 rfl
  have yW_6 : W.cell? ⟨B + 1, 6, none⟩ = some (.int .i64 sp) := X0.out.2.2.1.cell 6 rfl
  have yW_7 : W.cell? ⟨B + 1, 7, none⟩ = some (.int .i64 dp) := X0.out.2.2.1.cell 7 rfl
  have yW_8 : W.cell? ⟨B + 1, 8, none⟩ = some (.int .i64 mk) := X0.out.2.2.1.cell 8 rfl
  have yW_9 : W.cell? ⟨B + 1, 9, none⟩ = some (.int .i64 sm) := X0.out.2.2.1.cell 9 rfl
  have yW_10 : W.cell? ⟨B + 1, 10, none⟩ = some (.string fb) := X0.out.2.2.1.cell 10 rfl
  cases b1
  · go_region_with (go_at_call 42; refine (A1'.out _ _ _ ((N1'.out W _ ?_).drew)).mono ?_; rfl; rintro e w1 ⟨rfl, q⟩; have X1 : Hid (Below w.heap.size w w1) := X0.out.1.trans (((hbel.out _ _).trans (q.mono (by simp))).mono X0.out.1.size))
    all_goals
      go_wp2
      go_ret
      exact ⟨ret_bool (by rw [Hok.out]; rfl), X1.out⟩
  · cases b2
    · go_region_with (first | (go_at_call 42; refine (A1'.out _ _ _ ((N1'.out W _ ?_).drew)).mono ?_; rfl; rintro e w1 ⟨rfl, q'⟩; have q := (hbel.out W _).trans (q'.mono (by simp)); have X1 : Hid (Below w.heap.size w w1 ∧ Boxed w1 B #[.int .i64 i, .int .i64 p, .int .i64 sn, .int .i64 sb, .int .i64 dn, .int .i64 db, .int .i64 pr, .int .i64 lo, .int .i64 hi, .int .i64 cl] 32 ∧ Boxed w1 (B + 1) #[.int .i64 f0, .int .i64 g1, .slice a nf c, .int .i64 fs, .int .i64 fd, .int .i64 fp, .int .i64 sp, .int .i64 dp, .int .i64 mk, .int .i64 sm, .string fb] 27 ∧ IntsAt w1 a ft) := ⟨X0.out.1.trans (q.mono X0.out.1.size), X0.out.2.1.below X0.out.2.1.under q, X0.out.2.2.1.below X0.out.2.2.1.under q, ints_bel X0.out.2.2.2 q⟩; have xw1_0 : w1.cell? ⟨B, 0, none⟩ = some (.int .i64 i) := X1.out.2.1.cell 0 rfl; have xw1_1 : w1.cell? ⟨B, 1, none⟩ = some (.int .i64 p) := X1.out.2.1.cell 1 rfl; have xw1_2 : w1.cell? ⟨B, 2, none⟩ = some (.int .i64 sn) := X1.out.2.1.cell 2 rfl; have xw1_3 : w1.cell? ⟨B, 3, none⟩ = some (.int .i64 sb) := X1.out.2.1.cell 3 rfl; have xw1_4 : w1.cell? ⟨B, 4, none⟩ = some (.int .i64 dn) := X1.out.2.1.cell 4 rfl; have xw1_5 : w1.cell? ⟨B, 5, none⟩ = some (.int .i64 db) := X1.out.2.1.cell 5 rfl; have xw1_6 : w1.cell? ⟨B, 6, none⟩ = some (.int .i64 pr) := X1.out.2.1.cell 6 rfl; have xw1_7 : w1.cell? ⟨B, 7, none⟩ = some (.int .i64 lo) := X1.out.2.1.cell 7 rfl; have xw1_8 : w1.cell? ⟨B, 8, none⟩ = some (.int .i64 hi) := X1.out.2.1.cell 8 rfl; have xw1_9 : w1.cell? ⟨B, 9, none⟩ = some (.int .i64 cl) := X1.out.2.1.cell 9 rfl; have yw1_0 : w1.cell? ⟨B + 1, 0, none⟩ = some (.int .i64 f0) := X1.out.2.2.1.cell 0 rfl; have yw1_1 : w1.cell? ⟨B + 1, 1, none⟩ = some (.int .i64 g1) := X1.out.2.2.1.cell 1 rfl; have yw1_2 : w1.cell? ⟨B + 1, 2, none⟩ = some (.slice a nf c) := X1.out.2.2.1.cell 2 rfl; have yw1_3 : w1.cell? ⟨B + 1, 3, none⟩ = some (.int .i64 fs) := X1.out.2.2.1.cell 3 rfl; have yw1_4 : w1.cell? ⟨B + 1, 4, none⟩ = some (.int .i64 fd) := X1.out.2.2.1.cell 4 rfl; have yw1_5 : w1.cell? ⟨B + 1, 5, none⟩ = some (.int .i64 fp) := X1.out.2.2.1.cell 5 rfl; have yw1_6 : w1.cell? ⟨B + 1, 6, none⟩ = some (.int .i64 sp) := X1.out.2.2.1.cell 6 rfl; have yw1_7 : w1.cell? ⟨B + 1, 7, none⟩ = some (.int .i64 dp) := X1.out.2.2.1.cell 7 rfl; have yw1_8 : w1.cell? ⟨B + 1, 8, none⟩ = some (.int .i64 mk) := X1.out.2.2.1.cell 8 rfl; have yw1_9 : w1.cell? ⟨B + 1, 9, none⟩ = some (.int .i64 sm) := X1.out.2.2.1.cell 9 rfl; have yw1_10 : w1.cell? ⟨B + 1, 10, none⟩ = some (.string fb) := X1.out.2.2.1.cell 10 rfl;  clear q q') | (go_at_call 32; refine (A2'.out _ X1.out.2.2.2).mono ?_; rintro e w2 ⟨rfl, q⟩; have X2 : Hid (Below w.heap.size w w2) := X1.out.1.trans (q.mono X1.out.1.size); clear q))
      all_goals
        go_wp2
        go_ret
        exact ⟨ret_bool (by rw [Hok.out]; rfl), X2.out⟩
    · have Hcv : Hid (cv = hv) := Hc.out rfl
      have A5 := fun w => A4'.out rfl rfl w
      have A5' : Hid _ := A5
      clear A5
      go_region_with (first | (go_at_call 42; refine (A1'.out _ _ _ ((N1'.out W _ ?_).drew)).mono ?_; rfl; rintro e w1 ⟨rfl, q'⟩; have q := (hbel.out W _).trans (q'.mono (by simp)); have X1 : Hid (Below w.heap.size w w1 ∧ Boxed w1 B #[.int .i64 i, .int .i64 p, .int .i64 sn, .int .i64 sb, .int .i64 dn, .int .i64 db, .int .i64 pr, .int .i64 lo, .int .i64 hi, .int .i64 cl] 32 ∧ Boxed w1 (B + 1) #[.int .i64 f0, .int .i64 g1, .slice a nf c, .int .i64 fs, .int .i64 fd, .int .i64 fp, .int .i64 sp, .int .i64 dp, .int .i64 mk, .int .i64 sm, .string fb] 27 ∧ IntsAt w1 a ft) := ⟨X0.out.1.trans (q.mono X0.out.1.size), X0.out.2.1.below X0.out.2.1.under q, X0.out.2.2.1.below X0.out.2.2.1.under q, ints_bel X0.out.2.2.2 q⟩; have xw1_0 : w1.cell? ⟨B, 0, none⟩ = some (.int .i64 i) := X1.out.2.1.cell 0 rfl; have xw1_1 : w1.cell? ⟨B, 1, none⟩ = some (.int .i64 p) := X1.out.2.1.cell 1 rfl; have xw1_2 : w1.cell? ⟨B, 2, none⟩ = some (.int .i64 sn) := X1.out.2.1.cell 2 rfl; have xw1_3 : w1.cell? ⟨B, 3, none⟩ = some (.int .i64 sb) := X1.out.2.1.cell 3 rfl; have xw1_4 : w1.cell? ⟨B, 4, none⟩ = some (.int .i64 dn) := X1.out.2.1.cell 4 rfl; have xw1_5 : w1.cell? ⟨B, 5, none⟩ = some (.int .i64 db) := X1.out.2.1.cell 5 rfl; have xw1_6 : w1.cell? ⟨B, 6, none⟩ = some (.int .i64 pr) := X1.out.2.1.cell 6 rfl; have xw1_7 : w1.cell? ⟨B, 7, none⟩ = some (.int .i64 lo) := X1.out.2.1.cell 7 rfl; have xw1_8 : w1.cell? ⟨B, 8, none⟩ = some (.int .i64 hi) := X1.out.2.1.cell 8 rfl; have xw1_9 : w1.cell? ⟨B, 9, none⟩ = some (.int .i64 cl) := X1.out.2.1.cell 9 rfl; have yw1_0 : w1.cell? ⟨B + 1, 0, none⟩ = some (.int .i64 f0) := X1.out.2.2.1.cell 0 rfl; have yw1_1 : w1.cell? ⟨B + 1, 1, none⟩ = some (.int .i64 g1) := X1.out.2.2.1.cell 1 rfl; have yw1_2 : w1.cell? ⟨B + 1, 2, none⟩ = some (.slice a nf c) := X1.out.2.2.1.cell 2 rfl; have yw1_3 : w1.cell? ⟨B + 1, 3, none⟩ = some (.int .i64 fs) := X1.out.2.2.1.cell 3 rfl; have yw1_4 : w1.cell? ⟨B + 1, 4, none⟩ = some (.int .i64 fd) := X1.out.2.2.1.cell 4 rfl; have yw1_5 : w1.cell? ⟨B + 1, 5, none⟩ = some (.int .i64 fp) := X1.out.2.2.1.cell 5 rfl; have yw1_6 : w1.cell? ⟨B + 1, 6, none⟩ = some (.int .i64 sp) := X1.out.2.2.1.cell 6 rfl; have yw1_7 : w1.cell? ⟨B + 1, 7, none⟩ = some (.int .i64 dp) := X1.out.2.2.1.cell 7 rfl; have yw1_8 : w1.cell? ⟨B + 1, 8, none⟩ = some (.int .i64 mk) := X1.out.2.2.1.cell 8 rfl; have yw1_9 : w1.cell? ⟨B + 1, 9, none⟩ = some (.int .i64 sm) := X1.out.2.2.1.cell 9 rfl; have yw1_10 : w1.cell? ⟨B + 1, 10, none⟩ = some (.string fb) := X1.out.2.2.1.cell 10 rfl;  clear q q') | (go_at_call 32; refine (A2'.out _ X1.out.2.2.2).mono ?_; rintro e w2 ⟨rfl, q⟩; have X2 : Hid (Below w.heap.size w w2 ∧ Boxed w2 B #[.int .i64 i, .int .i64 p, .int .i64 sn, .int .i64 sb, .int .i64 dn, .int .i64 db, .int .i64 pr, .int .i64 lo, .int .i64 hi, .int .i64 cl] 32 ∧ Boxed w2 (B + 1) #[.int .i64 f0, .int .i64 g1, .slice a nf c, .int .i64 fs, .int .i64 fd, .int .i64 fp, .int .i64 sp, .int .i64 dp, .int .i64 mk, .int .i64 sm, .string fb] 27 ∧ IntsAt w2 a ft) := ⟨X1.out.1.trans (q.mono X1.out.1.size), X1.out.2.1.below X1.out.2.1.under q, X1.out.2.2.1.below X1.out.2.2.1.under q, ints_bel X1.out.2.2.2 q⟩; have xw2_0 : w2.cell? ⟨B, 0, none⟩ = some (.int .i64 i) := X2.out.2.1.cell 0 rfl; have xw2_1 : w2.cell? ⟨B, 1, none⟩ = some (.int .i64 p) := X2.out.2.1.cell 1 rfl; have xw2_2 : w2.cell? ⟨B, 2, none⟩ = some (.int .i64 sn) := X2.out.2.1.cell 2 rfl; have xw2_3 : w2.cell? ⟨B, 3, none⟩ = some (.int .i64 sb) := X2.out.2.1.cell 3 rfl; have xw2_4 : w2.cell? ⟨B, 4, none⟩ = some (.int .i64 dn) := X2.out.2.1.cell 4 rfl; have xw2_5 : w2.cell? ⟨B, 5, none⟩ = some (.int .i64 db) := X2.out.2.1.cell 5 rfl; have xw2_6 : w2.cell? ⟨B, 6, none⟩ = some (.int .i64 pr) := X2.out.2.1.cell 6 rfl; have xw2_7 : w2.cell? ⟨B, 7, none⟩ = some (.int .i64 lo) := X2.out.2.1.cell 7 rfl; have xw2_8 : w2.cell? ⟨B, 8, none⟩ = some (.int .i64 hi) := X2.out.2.1.cell 8 rfl; have xw2_9 : w2.cell? ⟨B, 9, none⟩ = some (.int .i64 cl) := X2.out.2.1.cell 9 rfl; have yw2_0 : w2.cell? ⟨B + 1, 0, none⟩ = some (.int .i64 f0) := X2.out.2.2.1.cell 0 rfl; have yw2_1 : w2.cell? ⟨B + 1, 1, none⟩ = some (.int .i64 g1) := X2.out.2.2.1.cell 1 rfl; have yw2_2 : w2.cell? ⟨B + 1, 2, none⟩ = some (.slice a nf c) := X2.out.2.2.1.cell 2 rfl; have yw2_3 : w2.cell? ⟨B + 1, 3, none⟩ = some (.int .i64 fs) := X2.out.2.2.1.cell 3 rfl; have yw2_4 : w2.cell? ⟨B + 1, 4, none⟩ = some (.int .i64 fd) := X2.out.2.2.1.cell 4 rfl; have yw2_5 : w2.cell? ⟨B + 1, 5, none⟩ = some (.int .i64 fp) := X2.out.2.2.1.cell 5 rfl; have yw2_6 : w2.cell? ⟨B + 1, 6, none⟩ = some (.int .i64 sp) := X2.out.2.2.1.cell 6 rfl; have yw2_7 : w2.cell? ⟨B + 1, 7, none⟩ = some (.int .i64 dp) := X2.out.2.2.1.cell 7 rfl; have yw2_8 : w2.cell? ⟨B + 1, 8, none⟩ = some (.int .i64 mk) := X2.out.2.2.1.cell 8 rfl; have yw2_9 : w2.cell? ⟨B + 1, 9, none⟩ = some (.int .i64 sm) := X2.out.2.2.1.cell 9 rfl; have yw2_10 : w2.cell? ⟨B + 1, 10, none⟩ = some (.string fb) := X2.out.2.2.1.cell 10 rfl;  clear q) | (go_at_call 33; refine (A3'.out _).mono ?_; rintro e w3 ⟨rfl, q⟩; have X3 : Hid (Below w.heap.size w w3 ∧ Boxed w3 B #[.int .i64 i, .int .i64 p, .int .i64 sn, .int .i64 sb, .int .i64 dn, .int .i64 db, .int .i64 pr, .int .i64 lo, .int .i64 hi, .int .i64 cl] 32 ∧ Boxed w3 (B + 1) #[.int .i64 f0, .int .i64 g1, .slice a nf c, .int .i64 fs, .int .i64 fd, .int .i64 fp, .int .i64 sp, .int .i64 dp, .int .i64 mk, .int .i64 sm, .string fb] 27 ∧ IntsAt w3 a ft) := ⟨X2.out.1.trans (q.mono X2.out.1.size), X2.out.2.1.below X2.out.2.1.under q, X2.out.2.2.1.below X2.out.2.2.1.under q, ints_bel X2.out.2.2.2 q⟩; have xw3_0 : w3.cell? ⟨B, 0, none⟩ = some (.int .i64 i) := X3.out.2.1.cell 0 rfl; have xw3_1 : w3.cell? ⟨B, 1, none⟩ = some (.int .i64 p) := X3.out.2.1.cell 1 rfl; have xw3_2 : w3.cell? ⟨B, 2, none⟩ = some (.int .i64 sn) := X3.out.2.1.cell 2 rfl; have xw3_3 : w3.cell? ⟨B, 3, none⟩ = some (.int .i64 sb) := X3.out.2.1.cell 3 rfl; have xw3_4 : w3.cell? ⟨B, 4, none⟩ = some (.int .i64 dn) := X3.out.2.1.cell 4 rfl; have xw3_5 : w3.cell? ⟨B, 5, none⟩ = some (.int .i64 db) := X3.out.2.1.cell 5 rfl; have xw3_6 : w3.cell? ⟨B, 6, none⟩ = some (.int .i64 pr) := X3.out.2.1.cell 6 rfl; have xw3_7 : w3.cell? ⟨B, 7, none⟩ = some (.int .i64 lo) := X3.out.2.1.cell 7 rfl; have xw3_8 : w3.cell? ⟨B, 8, none⟩ = some (.int .i64 hi) := X3.out.2.1.cell 8 rfl; have xw3_9 : w3.cell? ⟨B, 9, none⟩ = some (.int .i64 cl) := X3.out.2.1.cell 9 rfl; have yw3_0 : w3.cell? ⟨B + 1, 0, none⟩ = some (.int .i64 f0) := X3.out.2.2.1.cell 0 rfl; have yw3_1 : w3.cell? ⟨B + 1, 1, none⟩ = some (.int .i64 g1) := X3.out.2.2.1.cell 1 rfl; have yw3_2 : w3.cell? ⟨B + 1, 2, none⟩ = some (.slice a nf c) := X3.out.2.2.1.cell 2 rfl; have yw3_3 : w3.cell? ⟨B + 1, 3, none⟩ = some (.int .i64 fs) := X3.out.2.2.1.cell 3 rfl; have yw3_4 : w3.cell? ⟨B + 1, 4, none⟩ = some (.int .i64 fd) := X3.out.2.2.1.cell 4 rfl; have yw3_5 : w3.cell? ⟨B + 1, 5, none⟩ = some (.int .i64 fp) := X3.out.2.2.1.cell 5 rfl; have yw3_6 : w3.cell? ⟨B + 1, 6, none⟩ = some (.int .i64 sp) := X3.out.2.2.1.cell 6 rfl; have yw3_7 : w3.cell? ⟨B + 1, 7, none⟩ = some (.int .i64 dp) := X3.out.2.2.1.cell 7 rfl; have yw3_8 : w3.cell? ⟨B + 1, 8, none⟩ = some (.int .i64 mk) := X3.out.2.2.1.cell 8 rfl; have yw3_9 : w3.cell? ⟨B + 1, 9, none⟩ = some (.int .i64 sm) := X3.out.2.2.1.cell 9 rfl; have yw3_10 : w3.cell? ⟨B + 1, 10, none⟩ = some (.string fb) := X3.out.2.2.1.cell 10 rfl;  clear q) | (go_at_call 37; refine (A5'.out _).mono ?_; rintro e w4 ⟨rfl, q⟩; have X4 : Hid (Below w.heap.size w w4) := X3.out.1.trans (q.mono X3.out.1.size); clear q))
      all_goals
        go_wp2
        go_ret
        exact ⟨ret_bool (by rw [Hok.out, Hcv.out]; rfl), X4.out⟩
end Go.Proofs.Ytdifegaokdoleaa
