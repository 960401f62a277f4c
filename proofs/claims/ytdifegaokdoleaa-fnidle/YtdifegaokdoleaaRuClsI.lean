/-
  The walk of the program's ClassOf. By the verifier, by program.
-/
import Derived.Test.YtdifegaokdoleaaRuFore
import Derived.Test.YtdifegaokdoleaaRuDel
import Derived.Test.YtdifegaokdoleaaRuCls
namespace Go.Proofs.Ytdifegaokdoleaa
open Go.RowKit Go.Shelf

set_option maxHeartbeats 3200000 in
set_option maxRecDepth 100000 in
theorem implClassC (r o : Ru) (hr : r.ok = true) (ho : o.inn) (B : Nat) (w : World) (hB : Hid (Boxed w B #[.int .i64 o.id, .int .i64 o.prio, .int .i64 o.snet, .int .i64 o.sbits, .int .i64 o.dnet, .int .i64 o.dbits, .int .i64 o.proto, .int .i64 o.low, .int .i64 o.high, .int .i64 o.cls] 32)) :
    Calls Try.prog 36 #[r.val, .pointer (some ⟨B, 0, none⟩)] w fun e w' => e = .returned (.bool (!r.cov o)) ∧ Below w.heap.size w w' := by
  have C := fun w => implCov r o hr ho w
  generalize r.cov o = cv at C ⊢
  clear hr ho
  obtain ⟨i, p, sn, sb, dn, db, pr, lo, hi, cl⟩ := r
  simp only [Ru.val] at C ⊢
  have C' : Hid _ := C
  clear C
  have X : Hid (Below w.heap.size w (w.alloc (.cells #[.int .i64 i, .int .i64 p, .int .i64 sn, .int .i64 sb, .int .i64 dn, .int .i64 db, .int .i64 pr, .int .i64 lo, .int .i64 hi, .int .i64 cl] 32)) ∧ Boxed (w.alloc (.cells #[.int .i64 i, .int .i64 p, .int .i64 sn, .int .i64 sb, .int .i64 dn, .int .i64 db, .int .i64 pr, .int .i64 lo, .int .i64 hi, .int .i64 cl] 32)) B #[.int .i64 o.id, .int .i64 o.prio, .int .i64 o.snet, .int .i64 o.sbits, .int .i64 o.dnet, .int .i64 o.dbits, .int .i64 o.proto, .int .i64 o.low, .int .i64 o.high, .int .i64 o.cls] 32) := ⟨(Below.refl _ _).alloc (Nat.le_refl _) _, hB.out.more _⟩
  have o0 : (w.alloc (.cells #[.int .i64 i, .int .i64 p, .int .i64 sn, .int .i64 sb, .int .i64 dn, .int .i64 db, .int .i64 pr, .int .i64 lo, .int .i64 hi, .int .i64 cl] 32)).cell? ⟨B, 0, none⟩ = some (.int .i64 o.id) := X.out.2.cell 0 rfl
  have o1 : (w.alloc (.cells #[.int .i64 i, .int .i64 p, .int .i64 sn, .int .i64 sb, .int .i64 dn, .int .i64 db, .int .i64 pr, .int .i64 lo, .int .i64 hi, .int .i64 cl] 32)).cell? ⟨B, 1, none⟩ = some (.int .i64 o.prio) := X.out.2.cell 1 rfl
  have o2 : (w.alloc (.cells #[.int .i64 i, .int .i64 p, .int .i64 sn, .int .i64 sb, .int .i64 dn, .int .i64 db, .int .i64 pr, .int .i64 lo, .int .i64 hi, .int .i64 cl] 32)).cell? ⟨B, 2, none⟩ = some (.int .i64 o.snet) := X.out.2.cell 2 rfl
  have o3 : (w.alloc (.cells #[.int .i64 i, .int .i64 p, .int .i64 sn, .int .i64 sb, .int .i64 dn, .int .i64 db, .int .i64 pr, .int .i64 lo, .int .i64 hi, .int .i64 cl] 32)).cell? ⟨B, 3, none⟩ = some (.int .i64 o.sbits) := X.out.2.cell 3 rfl
  have o4 : (w.alloc (.cells #[.int .i64 i, .int .i64 p, .int .i64 sn, .int .i64 sb, .int .i64 dn, .int .i64 db, .int .i64 pr, .int .i64 lo, .int .i64 hi, .int .i64 cl] 32)).cell? ⟨B, 4, none⟩ = some (.int .i64 o.dnet) := X.out.2.cell 4 rfl
  have o5 : (w.alloc (.cells #[.int .i64 i, .int .i64 p, .int .i64 sn, .int .i64 sb, .int .i64 dn, .int .i64 db, .int .i64 pr, .int .i64 lo, .int .i64 hi, .int .i64 cl] 32)).cell? ⟨B, 5, none⟩ = some (.int .i64 o.dbits) := X.out.2.cell 5 rfl
  have o6 : (w.alloc (.cells #[.int .i64 i, .int .i64 p, .int .i64 sn, .int .i64 sb, .int .i64 dn, .int .i64 db, .int .i64 pr, .int .i64 lo, .int .i64 hi, .int .i64 cl] 32)).cell? ⟨B, 6, none⟩ = some (.int .i64 o.proto) := X.out.2.cell 6 rfl
  have o7 : (w.alloc (.cells #[.int .i64 i, .int .i64 p, .int .i64 sn, .int .i64 sb, .int .i64 dn, .int .i64 db, .int .i64 pr, .int .i64 lo, .int .i64 hi, .int .i64 cl] 32)).cell? ⟨B, 7, none⟩ = some (.int .i64 o.low) := X.out.2.cell 7 rfl
  have o8 : (w.alloc (.cells #[.int .i64 i, .int .i64 p, .int .i64 sn, .int .i64 sb, .int .i64 dn, .int .i64 db, .int .i64 pr, .int .i64 lo, .int .i64 hi, .int .i64 cl] 32)).cell? ⟨B, 8, none⟩ = some (.int .i64 o.high) := X.out.2.cell 8 rfl
  have o9 : (w.alloc (.cells #[.int .i64 i, .int .i64 p, .int .i64 sn, .int .i64 sb, .int .i64 dn, .int .i64 db, .int .i64 pr, .int .i64 lo, .int .i64 hi, .int .i64 cl] 32)).cell? ⟨B, 9, none⟩ = some (.int .i64 o.cls) := X.out.2.cell 9 rfl
  go_enter Try.func36, Try.ntmps36
  go_wp2_with fail
  refine (C'.out _).mono ?_
  rintro e w1 ⟨rfl, q⟩
  have X1 : Hid (Below w.heap.size w w1) := X.out.1.trans (q.mono X.out.1.size)
  clear q X o0 o1 o2 o3 o4 o5 o6 o7 o8 o9
  go_wp2
  go_ret
  exact ⟨rfl, X1.out⟩
theorem classTells (o : Ru) (ho : o.inn) (B : Nat) (w : World) (hB : Boxed w B #[.int .i64 o.id, .int .i64 o.prio, .int .i64 o.snet, .int .i64 o.sbits, .int .i64 o.dnet, .int .i64 o.dbits, .int .i64 o.proto, .int .i64 o.low, .int .i64 o.high, .int .i64 o.cls] 32) :
    RuTells w (fun k => k = B) 36 #[] #[.pointer (some ⟨B, 0, none⟩)] (fun r => r.ok = true) (fun r => !r.cov o) := by
  refine ⟨enters_of Try.func36 (by kernel_rfl) rfl, fun k hk => ?_, fun W r hr hW => ?_⟩
  · subst hk; exact hB.under
  · exact implClassC r o hr ho B W ((hW B rfl).trans hB)
theorem rus_mem {l : List Ru} (h : rusOk l = true) : ∀ r ∈ l, r.ok = true := by
  intro r hr
  obtain ⟨i, hi, rfl⟩ := List.mem_iff_getElem.1 hr
  have := rus_ok h hi
  rwa [ruAt_lt hi] at this

theorem run_fieldC (m : Ru) (w : World) : (Instr.field 32 (.agg #[.int .i64 m.id, .int .i64 m.prio, .int .i64 m.snet, .int .i64 m.sbits, .int .i64 m.dnet, .int .i64 m.dbits, .int .i64 m.proto, .int .i64 m.low, .int .i64 m.high, .int .i64 m.cls]) 9).run Try.prog w = .ok (.int .i64 m.cls) w := by kernel_rfl

set_option maxHeartbeats 6400000 in
set_option maxRecDepth 100000 in
theorem implClassOf (a0 : Option Addr) (cap : Nat) (l : List Ru) (f : Fr) (af : Option Addr) (cf : Nat) (w : World) (hL : l.length ≤ 1048576) (hT : f.tags.length ≤ 1048576) (hn : a0 = none → cap = 0) (h : Hid (RusAt w a0 l)) (hc : Hid (IntsAt w af f.tags)) :
    Calls Try.prog 7 #[.slice a0 l.length cap, f.val af cf] w fun e w' => e = .returned (.int .i64 (classV l f)) ∧ Below w.heap.size w w' := by
  have Hv : Hid (classV l f = if rusOk l = true ∧ f.ok = true then classL l f else -1) := rfl
  have A1 := fun w h => implRules a0 cap l w hL h
  have A2 := fun w h => implFrameOk f af cf w hT h
  have A3 := fun w => implOnly f af cf w
  have CL := fun w h => implCloneRu a0 cap l w h hn hL
  have Ho : Hid (f.ok = true → (onlyR f).inn) := fun h => only_inn h
  have DE : Hid (rusOk l = true → f.ok = true → ∀ base a cap B w, base ≤ w.heap.size → RuRow base w (.slice a l.length cap) l → B < base → Boxed w B #[.int .i64 (onlyR f).id, .int .i64 (onlyR f).prio, .int .i64 (onlyR f).snet, .int .i64 (onlyR f).sbits, .int .i64 (onlyR f).dnet, .int .i64 (onlyR f).dbits, .int .i64 (onlyR f).proto, .int .i64 (onlyR f).low, .int .i64 (onlyR f).high, .int .i64 (onlyR f).cls] 32 →
      Calls Try.prog 34 #[.slice a l.length cap, .func (.func 36) #[] #[.pointer (some ⟨B, 0, none⟩)]] w fun e w' => (∃ v', e = .returned v' ∧ RuRow base w' v' (l.filter fun r => r.hits f)) ∧ Below base w w') := by
    show rusOk l = true → f.ok = true → _
    intro h1 h2 base a cap B w hb hr hB hbx
    have := implDeleteRu base a cap l 36 #[] #[.pointer (some ⟨B, 0, none⟩)] (fun k => k = B) (fun r => r.ok = true) (fun r => !r.cov (onlyR f)) w hL hb hr (rus_mem h1) (fun k hk => by subst hk; exact hB) (classTells (onlyR f) (only_inn h2) B w hbx)
    have e : (l.filter fun r => !(!r.cov (onlyR f))) = l.filter fun r => r.hits f := by
      apply List.filter_congr
      intro r hr
      rw [Bool.not_not, Ru.cov_hits (rus_mem h1 r hr)]
    rw [e] at this
    exact this
  have FO : Hid (rusOk l = true → ∀ (v : Value) base w, RuRow base w v (l.filter fun r => r.hits f) → Calls Try.prog 38 #[v] w fun e w' => (∃ m : Ru, e = .returned m.val ∧ m.cls = classL l f) ∧ Below w.heap.size w w') := by
    show rusOk l = true → _
    intro h1 v base w hr
    obtain ⟨a, cap, rfl⟩ := hr.shape
    refine (implFore a cap (l.filter fun r => r.hits f) w (Nat.le_trans (List.length_filter_le _ _) (rus_len h1)) hr.at).mono fun e w' q => ?_
    exact ⟨⟨_, q.1, class_front l f⟩, q.2⟩
  have Rsh : Hid (∀ base w v, RuRow base w v l → ∃ a c, v = .slice a l.length c) := fun base w v h => h.shape
  generalize (fun r : Ru => r.hits f) = hp at DE FO
  generalize rusOk l = o1 at A1 DE FO Hv
  generalize f.ok = o2 at A2 DE Hv Ho
  generalize classL l f = cv at FO Hv
  generalize classV l f = res at Hv ⊢
  obtain ⟨f0, g1, ft, fs, fd, fp, sp, dp, mk, sm, fb⟩ := f
  simp only [Fr.val, onlyR, Ru.val] at A2 A3 DE hc hT ⊢
  generalize ft.length = nf at A2 A3 ⊢
  generalize l.length = len at A1 CL DE Rsh ⊢
  have A1' : Hid _ := A1
  have A2' : Hid _ := A2
  have A3' : Hid _ := A3
  have CL' : Hid _ := CL
  clear A1 A2 A3 CL hT hL Ho
  have hmf : ∀ (fn : Fn) (first cap : Array Value) (w : World), (Instr.makeFunc fn first cap).run Try.prog w = .ok (.func fn first cap) w := fun _ _ _ _ => rfl
  have X0 : Hid (Below w.heap.size w (w.alloc (.cells #[.int .i64 f0, .int .i64 g1, .slice af nf cf, .int .i64 fs, .int .i64 fd, .int .i64 fp, .int .i64 sp, .int .i64 dp, .int .i64 mk, .int .i64 sm, .string fb] 27)) ∧ Boxed (w.alloc (.cells #[.int .i64 f0, .int .i64 g1, .slice af nf cf, .int .i64 fs, .int .i64 fd, .int .i64 fp, .int .i64 sp, .int .i64 dp, .int .i64 mk, .int .i64 sm, .string fb] 27)) w.heap.size #[.int .i64 f0, .int .i64 g1, .slice af nf cf, .int .i64 fs, .int .i64 fd, .int .i64 fp, .int .i64 sp, .int .i64 dp, .int .i64 mk, .int .i64 sm, .string fb] 27 ∧ RusAt (w.alloc (.cells #[.int .i64 f0, .int .i64 g1, .slice af nf cf, .int .i64 fs, .int .i64 fd, .int .i64 fp, .int .i64 sp, .int .i64 dp, .int .i64 mk, .int .i64 sm, .string fb] 27)) a0 l ∧ IntsAt (w.alloc (.cells #[.int .i64 f0, .int .i64 g1, .slice af nf cf, .int .i64 fs, .int .i64 fd, .int .i64 fp, .int .i64 sp, .int .i64 dp, .int .i64 mk, .int .i64 sm, .string fb] 27)) af ft) := ⟨(Below.refl _ w).alloc (Nat.le_refl _) _, Boxed.new _ _ _, h.out.alloc _, hc.out.alloc _⟩
  go_enter Try.func7, Try.ntmps7
  go_wp2_with fail
  refine (A1'.out _ X0.out.2.2.1).mono ?_
  rintro e w1 ⟨rfl, q⟩
  have X1 : Hid (Below w.heap.size w w1 ∧ Boxed w1 w.heap.size #[.int .i64 f0, .int .i64 g1, .slice af nf cf, .int .i64 fs, .int .i64 fd, .int .i64 fp, .int .i64 sp, .int .i64 dp, .int .i64 mk, .int .i64 sm, .string fb] 27 ∧ RusAt w1 a0 l ∧ IntsAt w1 af ft) := ⟨X0.out.1.trans (q.mono X0.out.1.size), X0.out.2.1.below X0.out.2.1.under q, X0.out.2.2.1.below q, ints_bel X0.out.2.2.2 q⟩
  clear q X0
  cases o1
  · have e : Hid (res = -1) := by show res = -1; rw [Hv.out]; simp
    go_wp2
    go_ret
    exact ⟨by rw [e.out]; rfl, X1.out.1⟩
  have yw1_0 : w1.cell? ⟨w.heap.size, 0, none⟩ = some (.int .i64 f0) := X1.out.2.1.cell 0 rfl
  have yw1_1 : w1.cell? ⟨w.heap.size, 1, none⟩ = some (.int .i64 g1) := X1.out.2.1.cell 1 rfl
  have yw1_2 : w1.cell? ⟨w.heap.size, 2, none⟩ = some (.slice af nf cf) := X1.out.2.1.cell 2 rfl
  have yw1_3 : w1.cell? ⟨w.heap.size, 3, none⟩ = some (.int .i64 fs) := X1.out.2.1.cell 3 rfl
  have yw1_4 : w1.cell? ⟨w.heap.size, 4, none⟩ = some (.int .i64 fd) := X1.out.2.1.cell 4 rfl
  have yw1_5 : w1.cell? ⟨w.heap.size, 5, none⟩ = some (.int .i64 fp) := X1.out.2.1.cell 5 rfl
  have yw1_6 : w1.cell? ⟨w.heap.size, 6, none⟩ = some (.int .i64 sp) := X1.out.2.1.cell 6 rfl
  have yw1_7 : w1.cell? ⟨w.heap.size, 7, none⟩ = some (.int .i64 dp) := X1.out.2.1.cell 7 rfl
  have yw1_8 : w1.cell? ⟨w.heap.size, 8, none⟩ = some (.int .i64 mk) := X1.out.2.1.cell 8 rfl
  have yw1_9 : w1.cell? ⟨w.heap.size, 9, none⟩ = some (.int .i64 sm) := X1.out.2.1.cell 9 rfl
  have yw1_10 : w1.cell? ⟨w.heap.size, 10, none⟩ = some (.string fb) := X1.out.2.1.cell 10 rfl
  go_wp2_with fail
  refine (A2'.out _ X1.out.2.2.2).mono ?_
  rintro e w2 ⟨rfl, q⟩
  have X2 : Hid (Below w.heap.size w w2 ∧ Boxed w2 w.heap.size #[.int .i64 f0, .int .i64 g1, .slice af nf cf, .int .i64 fs, .int .i64 fd, .int .i64 fp, .int .i64 sp, .int .i64 dp, .int .i64 mk, .int .i64 sm, .string fb] 27 ∧ RusAt w2 a0 l) := ⟨X1.out.1.trans (q.mono X1.out.1.size), X1.out.2.1.below X1.out.2.1.under q, X1.out.2.2.1.below q⟩
  clear q X1 yw1_0 yw1_1 yw1_2 yw1_3 yw1_4 yw1_5 yw1_6 yw1_7 yw1_8 yw1_9 yw1_10
  cases o2
  · have e : Hid (res = -1) := by show res = -1; rw [Hv.out]; simp
    go_wp2
    go_ret
    exact ⟨by rw [e.out]; rfl, X2.out.1⟩
  have e : Hid (res = cv) := by show res = cv; rw [Hv.out]; simp
  have DE1 := DE.out (by trivial) (by trivial)
  have FO1 := FO.out (by trivial)
  have DE2 : Hid _ := DE1
  have FO2 : Hid _ := FO1
  clear DE1 FO1
  clear Hv DE FO
  have yw2_0 : w2.cell? ⟨w.heap.size, 0, none⟩ = some (.int .i64 f0) := X2.out.2.1.cell 0 rfl
  have yw2_1 : w2.cell? ⟨w.heap.size, 1, none⟩ = some (.int .i64 g1) := X2.out.2.1.cell 1 rfl
  have yw2_2 : w2.cell? ⟨w.heap.size, 2, none⟩ = some (.slice af nf cf) := X2.out.2.1.cell 2 rfl
  have yw2_3 : w2.cell? ⟨w.heap.size, 3, none⟩ = some (.int .i64 fs) := X2.out.2.1.cell 3 rfl
  have yw2_4 : w2.cell? ⟨w.heap.size, 4, none⟩ = some (.int .i64 fd) := X2.out.2.1.cell 4 rfl
  have yw2_5 : w2.cell? ⟨w.heap.size, 5, none⟩ = some (.int .i64 fp) := X2.out.2.1.cell 5 rfl
  have yw2_6 : w2.cell? ⟨w.heap.size, 6, none⟩ = some (.int .i64 sp) := X2.out.2.1.cell 6 rfl
  have yw2_7 : w2.cell? ⟨w.heap.size, 7, none⟩ = some (.int .i64 dp) := X2.out.2.1.cell 7 rfl
  have yw2_8 : w2.cell? ⟨w.heap.size, 8, none⟩ = some (.int .i64 mk) := X2.out.2.1.cell 8 rfl
  have yw2_9 : w2.cell? ⟨w.heap.size, 9, none⟩ = some (.int .i64 sm) := X2.out.2.1.cell 9 rfl
  have yw2_10 : w2.cell? ⟨w.heap.size, 10, none⟩ = some (.string fb) := X2.out.2.1.cell 10 rfl
  go_wp2_with fail
  refine (A3'.out _).mono ?_
  rintro e w3 ⟨rfl, q⟩
  have X3 : Hid (Below w.heap.size w w3 ∧ RusAt w3 a0 l) := ⟨X2.out.1.trans (q.mono X2.out.1.size), X2.out.2.2.below q⟩
  clear q X2 yw2_0 yw2_1 yw2_2 yw2_3 yw2_4 yw2_5 yw2_6 yw2_7 yw2_8 yw2_9 yw2_10
  go_wp2_with fail
  have X4 : Hid (Below w.heap.size w (w3.alloc (.cells #[.int .i64 0, .int .i64 0, .int .i64 fs, .int .i64 32, .int .i64 fd, .int .i64 32, .int .i64 fp, .int .i64 dp, .int .i64 dp, .int .i64 0] 32)) ∧ RusAt (w3.alloc (.cells #[.int .i64 0, .int .i64 0, .int .i64 fs, .int .i64 32, .int .i64 fd, .int .i64 32, .int .i64 fp, .int .i64 dp, .int .i64 dp, .int .i64 0] 32)) a0 l ∧ Boxed (w3.alloc (.cells #[.int .i64 0, .int .i64 0, .int .i64 fs, .int .i64 32, .int .i64 fd, .int .i64 32, .int .i64 fp, .int .i64 dp, .int .i64 dp, .int .i64 0] 32)) w3.heap.size #[.int .i64 0, .int .i64 0, .int .i64 fs, .int .i64 32, .int .i64 fd, .int .i64 32, .int .i64 fp, .int .i64 dp, .int .i64 dp, .int .i64 0] 32) := ⟨X3.out.1.alloc X3.out.1.size _, X3.out.2.alloc _, Boxed.new _ _ _⟩
  obtain ⟨B, hB⟩ : ∃ B, w3.heap.size = B := ⟨_, rfl⟩
  rw [hB] at X4 ⊢
  generalize w3.alloc (.cells #[.int .i64 0, .int .i64 0, .int .i64 fs, .int .i64 32, .int .i64 fd, .int .i64 32, .int .i64 fp, .int .i64 dp, .int .i64 dp, .int .i64 0] 32) = w4 at X4 ⊢
  clear X3 hB
  refine (CL'.out _ X4.out.2.1).mono ?_
  rintro e w5 ⟨v5, rfl, r5, b5⟩
  obtain ⟨a5, c5, rfl⟩ := Rsh.out _ _ _ r5
  have X5 : Hid (Below w.heap.size w w5 ∧ RuRow w4.heap.size w5 (.slice a5 len c5) l ∧ Boxed w5 B #[.int .i64 0, .int .i64 0, .int .i64 fs, .int .i64 32, .int .i64 fd, .int .i64 32, .int .i64 fp, .int .i64 dp, .int .i64 dp, .int .i64 0] 32 ∧ B < w4.heap.size ∧ w4.heap.size ≤ w5.heap.size) := ⟨X4.out.1.trans (b5.mono X4.out.1.size), r5, X4.out.2.2.below X4.out.2.2.under b5, X4.out.2.2.under, b5.size⟩
  have Hs4 : Hid (w.heap.size ≤ w4.heap.size) := X4.out.1.size
  clear r5 b5 X4
  go_wp2_with fail
  refine (DE2.out w4.heap.size a5 c5 B w5 X5.out.2.2.2.2 X5.out.2.1 X5.out.2.2.2.1 X5.out.2.2.1).mono ?_
  rintro e w6 ⟨⟨v6, rfl, r6⟩, b6⟩
  have X6 : Hid (Below w.heap.size w w6 ∧ RuRow w4.heap.size w6 v6 (l.filter hp)) := ⟨X5.out.1.trans (b6.mono Hs4.out), r6⟩
  clear r6 b6 X5
  go_wp2_with fail
  refine (FO2.out v6 _ w6 X6.out.2).mono ?_
  rintro e w7 ⟨⟨m, rfl, hm⟩, b7⟩
  have X7 : Hid (Below w.heap.size w w7) := X6.out.1.trans (b7.mono X6.out.1.size)
  have Hm : Hid (m.cls = cv) := hm
  clear b7 X6 hm
  have hfd := fun w => run_fieldC m w
  unfold Ru.val
  go_wp2
  go_ret
  exact ⟨by rw [e.out, ← Hm.out]; rfl, X7.out⟩
end Go.Proofs.Ytdifegaokdoleaa
