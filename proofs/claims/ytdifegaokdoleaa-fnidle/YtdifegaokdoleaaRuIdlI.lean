/-
  The walk of the program's Idle. By the verifier, by program.
-/
import Derived.Test.YtdifegaokdoleaaRuShap
namespace Go.Proofs.Ytdifegaokdoleaa
open Go.RowKit Go.Shelf Go.Maps

set_option maxHeartbeats 6400000 in
set_option maxRecDepth 100000 in
theorem implIdleC (r o : Ru) (hr : r.ok = true) (ho : o.inn) (B : Nat) (w : World) (hB : Hid (Boxed w B #[.int .i64 o.id, .int .i64 o.prio, .int .i64 o.snet, .int .i64 o.sbits, .int .i64 o.dnet, .int .i64 o.dbits, .int .i64 o.proto, .int .i64 o.low, .int .i64 o.high, .int .i64 o.cls] 32)) :
    Calls Try.prog 53 #[r.val, .pointer (some ⟨B, 0, none⟩)] w fun e w' => e = .returned (.bool (r.ahead o && r.cov o)) ∧ Below w.heap.size w w' := by
  have D := fun w => implRuOrder r o w
  have Ha := ruOrd_ahead r o
  have C := fun w => implCov r o hr ho w
  generalize r.cov o = cv at C ⊢
  generalize r.ahead o = ad at Ha ⊢
  generalize ruOrdV r o = z at D Ha
  clear hr ho
  obtain ⟨i, p, sn, sb, dn, db, pr, lo, hi, cl⟩ := r
  simp only [Ru.val] at C D ⊢
  have C' : Hid _ := C
  have D' : Hid _ := D
  have Ha' : Hid (decide (z < 0) = ad) := Ha
  clear C D Ha
  have X : Hid (Below w.heap.size w (w.alloc (.cells #[.int .i64 i, .int .i64 p, .int .i64 sn, .int .i64 sb, .int .i64 dn, .int .i64 db, .int .i64 pr, .int .i64 lo, .int .i64 hi, .int .i64 cl] 32)) ∧ Boxed (w.alloc (.cells #[.int .i64 i, .int .i64 p, .int .i64 sn, .int .i64 sb, .int .i64 dn, .int .i64 db, .int .i64 pr, .int .i64 lo, .int .i64 hi, .int .i64 cl] 32)) B #[.int .i64 o.id, .int .i64 o.prio, .int .i64 o.snet, .int .i64 o.sbits, .int .i64 o.dnet, .int .i64 o.dbits, .int .i64 o.proto, .int .i64 o.low, .int .i64 o.high, .int .i64 o.cls] 32 ∧ Boxed (w.alloc (.cells #[.int .i64 i, .int .i64 p, .int .i64 sn, .int .i64 sb, .int .i64 dn, .int .i64 db, .int .i64 pr, .int .i64 lo, .int .i64 hi, .int .i64 cl] 32)) w.heap.size #[.int .i64 i, .int .i64 p, .int .i64 sn, .int .i64 sb, .int .i64 dn, .int .i64 db, .int .i64 pr, .int .i64 lo, .int .i64 hi, .int .i64 cl] 32) := ⟨(Below.refl _ _).alloc (Nat.le_refl _) _, hB.out.more _, Boxed.new _ _ _⟩
  have o0 : (w.alloc (.cells #[.int .i64 i, .int .i64 p, .int .i64 sn, .int .i64 sb, .int .i64 dn, .int .i64 db, .int .i64 pr, .int .i64 lo, .int .i64 hi, .int .i64 cl] 32)).cell? ⟨B, 0, none⟩ = some (.int .i64 o.id) := X.out.2.1.cell 0 rfl
  have o1 : (w.alloc (.cells #[.int .i64 i, .int .i64 p, .int .i64 sn, .int .i64 sb, .int .i64 dn, .int .i64 db, .int .i64 pr, .int .i64 lo, .int .i64 hi, .int .i64 cl] 32)).cell? ⟨B, 1, none⟩ = some (.int .i64 o.prio) := X.out.2.1.cell 1 rfl
  have o2 : (w.alloc (.cells #[.int .i64 i, .int .i64 p, .int .i64 sn, .int .i64 sb, .int .i64 dn, .int .i64 db, .int .i64 pr, .int .i64 lo, .int .i64 hi, .int .i64 cl] 32)).cell? ⟨B, 2, none⟩ = some (.int .i64 o.snet) := X.out.2.1.cell 2 rfl
  have o3 : (w.alloc (.cells #[.int .i64 i, .int .i64 p, .int .i64 sn, .int .i64 sb, .int .i64 dn, .int .i64 db, .int .i64 pr, .int .i64 lo, .int .i64 hi, .int .i64 cl] 32)).cell? ⟨B, 3, none⟩ = some (.int .i64 o.sbits) := X.out.2.1.cell 3 rfl
  have o4 : (w.alloc (.cells #[.int .i64 i, .int .i64 p, .int .i64 sn, .int .i64 sb, .int .i64 dn, .int .i64 db, .int .i64 pr, .int .i64 lo, .int .i64 hi, .int .i64 cl] 32)).cell? ⟨B, 4, none⟩ = some (.int .i64 o.dnet) := X.out.2.1.cell 4 rfl
  have o5 : (w.alloc (.cells #[.int .i64 i, .int .i64 p, .int .i64 sn, .int .i64 sb, .int .i64 dn, .int .i64 db, .int .i64 pr, .int .i64 lo, .int .i64 hi, .int .i64 cl] 32)).cell? ⟨B, 5, none⟩ = some (.int .i64 o.dbits) := X.out.2.1.cell 5 rfl
  have o6 : (w.alloc (.cells #[.int .i64 i, .int .i64 p, .int .i64 sn, .int .i64 sb, .int .i64 dn, .int .i64 db, .int .i64 pr, .int .i64 lo, .int .i64 hi, .int .i64 cl] 32)).cell? ⟨B, 6, none⟩ = some (.int .i64 o.proto) := X.out.2.1.cell 6 rfl
  have o7 : (w.alloc (.cells #[.int .i64 i, .int .i64 p, .int .i64 sn, .int .i64 sb, .int .i64 dn, .int .i64 db, .int .i64 pr, .int .i64 lo, .int .i64 hi, .int .i64 cl] 32)).cell? ⟨B, 7, none⟩ = some (.int .i64 o.low) := X.out.2.1.cell 7 rfl
  have o8 : (w.alloc (.cells #[.int .i64 i, .int .i64 p, .int .i64 sn, .int .i64 sb, .int .i64 dn, .int .i64 db, .int .i64 pr, .int .i64 lo, .int .i64 hi, .int .i64 cl] 32)).cell? ⟨B, 8, none⟩ = some (.int .i64 o.high) := X.out.2.1.cell 8 rfl
  have o9 : (w.alloc (.cells #[.int .i64 i, .int .i64 p, .int .i64 sn, .int .i64 sb, .int .i64 dn, .int .i64 db, .int .i64 pr, .int .i64 lo, .int .i64 hi, .int .i64 cl] 32)).cell? ⟨B, 9, none⟩ = some (.int .i64 o.cls) := X.out.2.1.cell 9 rfl
  go_enter Try.func53, Try.ntmps53
  go_wp2_with fail
  refine (D'.out _).mono ?_
  rintro e w1 ⟨rfl, q⟩
  have X1 : Hid (Below w.heap.size w w1 ∧ Boxed w1 B #[.int .i64 o.id, .int .i64 o.prio, .int .i64 o.snet, .int .i64 o.sbits, .int .i64 o.dnet, .int .i64 o.dbits, .int .i64 o.proto, .int .i64 o.low, .int .i64 o.high, .int .i64 o.cls] 32 ∧ Boxed w1 w.heap.size #[.int .i64 i, .int .i64 p, .int .i64 sn, .int .i64 sb, .int .i64 dn, .int .i64 db, .int .i64 pr, .int .i64 lo, .int .i64 hi, .int .i64 cl] 32) := ⟨X.out.1.trans (q.mono X.out.1.size), X.out.2.1.below X.out.2.1.under q, X.out.2.2.below X.out.2.2.under q⟩
  clear q X o0 o1 o2 o3 o4 o5 o6 o7 o8 o9
  cases ad
  · have hz : ¬ z < 0 := of_decide_eq_false Ha'.out
    go_wp2
    go_ret
    exact ⟨rfl, X1.out.1⟩
  · have hz : z < 0 := of_decide_eq_true Ha'.out
    have p0 : w1.cell? ⟨B, 0, none⟩ = some (.int .i64 o.id) := X1.out.2.1.cell 0 rfl
    have p1 : w1.cell? ⟨B, 1, none⟩ = some (.int .i64 o.prio) := X1.out.2.1.cell 1 rfl
    have p2 : w1.cell? ⟨B, 2, none⟩ = some (.int .i64 o.snet) := X1.out.2.1.cell 2 rfl
    have p3 : w1.cell? ⟨B, 3, none⟩ = some (.int .i64 o.sbits) := X1.out.2.1.cell 3 rfl
    have p4 : w1.cell? ⟨B, 4, none⟩ = some (.int .i64 o.dnet) := X1.out.2.1.cell 4 rfl
    have p5 : w1.cell? ⟨B, 5, none⟩ = some (.int .i64 o.dbits) := X1.out.2.1.cell 5 rfl
    have p6 : w1.cell? ⟨B, 6, none⟩ = some (.int .i64 o.proto) := X1.out.2.1.cell 6 rfl
    have p7 : w1.cell? ⟨B, 7, none⟩ = some (.int .i64 o.low) := X1.out.2.1.cell 7 rfl
    have p8 : w1.cell? ⟨B, 8, none⟩ = some (.int .i64 o.high) := X1.out.2.1.cell 8 rfl
    have p9 : w1.cell? ⟨B, 9, none⟩ = some (.int .i64 o.cls) := X1.out.2.1.cell 9 rfl
    have q0 : w1.cell? ⟨w.heap.size, 0, none⟩ = some (.int .i64 i) := X1.out.2.2.cell 0 rfl
    have q1 : w1.cell? ⟨w.heap.size, 1, none⟩ = some (.int .i64 p) := X1.out.2.2.cell 1 rfl
    have q2 : w1.cell? ⟨w.heap.size, 2, none⟩ = some (.int .i64 sn) := X1.out.2.2.cell 2 rfl
    have q3 : w1.cell? ⟨w.heap.size, 3, none⟩ = some (.int .i64 sb) := X1.out.2.2.cell 3 rfl
    have q4 : w1.cell? ⟨w.heap.size, 4, none⟩ = some (.int .i64 dn) := X1.out.2.2.cell 4 rfl
    have q5 : w1.cell? ⟨w.heap.size, 5, none⟩ = some (.int .i64 db) := X1.out.2.2.cell 5 rfl
    have q6 : w1.cell? ⟨w.heap.size, 6, none⟩ = some (.int .i64 pr) := X1.out.2.2.cell 6 rfl
    have q7 : w1.cell? ⟨w.heap.size, 7, none⟩ = some (.int .i64 lo) := X1.out.2.2.cell 7 rfl
    have q8 : w1.cell? ⟨w.heap.size, 8, none⟩ = some (.int .i64 hi) := X1.out.2.2.cell 8 rfl
    have q9 : w1.cell? ⟨w.heap.size, 9, none⟩ = some (.int .i64 cl) := X1.out.2.2.cell 9 rfl
    go_wp2_with fail
    refine (C'.out _).mono ?_
    rintro e w2 ⟨rfl, q⟩
    have X2 : Hid (Below w.heap.size w w2) := X1.out.1.trans (q.mono X1.out.1.size)
    clear q X1 p0 q0 p1 q1 p2 q2 p3 q3 p4 q4 p5 q5 p6 q6 p7 q7 p8 q8 p9 q9
    go_wp2
    go_ret
    exact ⟨rfl, X2.out⟩
theorem idleTells (o : Ru) (ho : o.inn) (B : Nat) (w : World) (hB : Boxed w B #[.int .i64 o.id, .int .i64 o.prio, .int .i64 o.snet, .int .i64 o.sbits, .int .i64 o.dnet, .int .i64 o.dbits, .int .i64 o.proto, .int .i64 o.low, .int .i64 o.high, .int .i64 o.cls] 32) :
    RuTells w (fun k => k = B) 53 #[] #[.pointer (some ⟨B, 0, none⟩)] (fun r => r.ok = true) (fun r => r.ahead o && r.cov o) := by
  refine ⟨enters_of Try.func53 (by kernel_rfl) rfl, fun k hk => ?_, fun W r hr hW => ?_⟩
  · subst hk; exact hB.under
  · exact implIdleC r o hr ho B W ((hW B rfl).trans hB)
theorem Ru.ahead_not_self (a : Ru) : a.ahead a = false := by unfold Ru.ahead; exact decide_eq_false (by omega)
theorem idle_any {l : List Ru} {i : Nat} (hr : ∀ k, k < l.length → (ruAt l k).ok = true) : l.any (fun a => a.ahead (ruAt l i) && a.cov (ruAt l i)) = (List.range l.length).any (idleB l i) := by
  rw [Bool.eq_iff_iff, List.any_eq_true, List.any_eq_true]
  constructor
  · rintro ⟨a, ha, h⟩
    obtain ⟨k, hk, rfl⟩ := List.mem_iff_getElem.1 ha
    refine ⟨k, List.mem_range.2 hk, ?_⟩
    have e := ruAt_lt hk
    unfold idleB
    rw [e]
    rw [Bool.and_eq_true] at h
    have hne : k ≠ i := by
      rintro rfl
      rw [e, Ru.ahead_not_self] at h
      cases h.1
    have hw := h.2
    rw [Ru.cov_wide (by rw [← e]; exact hr k hk)] at hw
    rw [decide_eq_false hne, h.1, hw]
    rfl
  · rintro ⟨k, hk, h⟩
    have hk' := List.mem_range.1 hk
    unfold idleB at h
    simp only [Bool.and_eq_true] at h
    refine ⟨ruAt l k, by rw [ruAt_lt hk']; exact List.getElem_mem _, ?_⟩
    rw [Ru.cov_wide (hr k hk'), h.2.1, h.2.2]
    rfl
theorem idleK_rise (l : List Ru) : ∀ k, (idleK l k).Pairwise (· < ·) := by
  intro k
  induction k with
  | zero => exact List.Pairwise.nil
  | succ k ih =>
    rw [idleK_succ, innerK_is]
    split
    · exact insI_rise ih _
    · exact ih
def idleS (l : List Ru) (k : Nat) (x : Int) : Bool := decide (x ∈ idleK l k)
theorem idleS_succ (l : List Ru) (k : Nat) : idleS l (k + 1) = if (List.range l.length).any (idleB l k) = true then (fun y => decide (y = (ruAt l k).id) || idleS l k y) else idleS l k := by
  funext y
  unfold idleS
  rw [idleK_succ, innerK_is]
  split
  · rw [Bool.eq_iff_iff]
    simp only [Bool.or_eq_true, decide_eq_true_eq, insI_mem]
  · rfl

set_option maxHeartbeats 6400000 in
set_option maxRecDepth 100000 in
theorem implIdle (a0 : Option Addr) (cap : Nat) (l : List Ru) (w : World) (hL : l.length ≤ 1048576) (h : Hid (RusAt w a0 l)) :
    Calls Try.prog 21 #[.slice a0 l.length cap] w fun e w' => (∃ v, e = .returned v ∧ IRow w.heap.size w' v (idleV l)) ∧ Below w.heap.size w w' := by
  have C := fun w h => implRules a0 cap l w hL h
  have Hv : Hid (idleV l = if rusOk l = true then idleK l l.length else []) := rfl
  have H40 : Hid (rusOk l = true → l.length ≤ 40 ∧ ∀ k, k < l.length → (ruAt l k).ok = true) := fun h => ⟨rus_len h, fun k hk => rus_ok h hk⟩
  generalize idleV l = res at Hv ⊢
  have HS : Hid (∀ k, idleS l (k + 1) = if (List.range l.length).any (idleB l k) = true then (fun y => decide (y = (ruAt l k).id) || idleS l k y) else idleS l k) := fun k => idleS_succ l k
  have RI := fun b n w hn h => implRising b n (idleS l l.length) (idleK l l.length) w hn h (idleK_rise l _) (fun x => decide_eq_true_iff)
  have CF : Hid ((∀ k, k < l.length → (ruAt l k).ok = true) → ∀ k, k < l.length → ∀ a c B w, RusAt w a l → Boxed w B #[.int .i64 (ruAt l k).id, .int .i64 (ruAt l k).prio, .int .i64 (ruAt l k).snet, .int .i64 (ruAt l k).sbits, .int .i64 (ruAt l k).dnet, .int .i64 (ruAt l k).dbits, .int .i64 (ruAt l k).proto, .int .i64 (ruAt l k).low, .int .i64 (ruAt l k).high, .int .i64 (ruAt l k).cls] 32 → Calls Try.prog 52 #[.slice a l.length c, .func (.func 53) #[] #[.pointer (some ⟨B, 0, none⟩)]] w fun e w' => e = .returned (.bool ((List.range l.length).any (idleB l k))) ∧ Below w.heap.size w w') := by
    show (∀ k, k < l.length → (ruAt l k).ok = true) → _
    intro hr k hk a c B w h hB
    have := implContainsU a c l 53 #[] #[.pointer (some ⟨B, 0, none⟩)] (fun k => k = B) (fun r => r.ok = true) (fun r => r.ahead (ruAt l k) && r.cov (ruAt l k)) w hL h (fun r hm => by obtain ⟨j, hj, rfl⟩ := List.mem_iff_getElem.1 hm; rw [← ruAt_lt hj]; exact hr j hj) (idleTells (ruAt l k) (Ru.ok_inn (hr k hk)) B w hB)
    rw [idle_any hr] at this
    exact this
  obtain ⟨len, hlen⟩ : ∃ n, l.length = n := ⟨_, rfl⟩
  rw [hlen] at C Hv H40 HS RI CF ⊢
  have Hlen : Hid (l.length = len) := hlen
  clear hlen hL
  generalize rusOk l = ok at C Hv H40
  have C' : Hid _ := C
  have RI' : Hid _ := RI
  clear C RI
  have hmm := @run_makeMap Try.prog
  have hmf : ∀ (fn : Fn) (first cap : Array Value) (w : World), (Instr.makeFunc fn first cap).run Try.prog w = .ok (.func fn first cap) w := fun _ _ _ _ => rfl
  go_enter Try.func21, Try.ntmps21
  go_wp2_with fail
  refine (C'.out _ h).mono ?_
  rintro e w1 ⟨rfl, b1⟩
  have H1 : Hid (Below w.heap.size w w1) := b1
  clear b1
  cases ok
  · have e : Hid (res = []) := by show res = []; rw [Hv.out]; rfl
    go_wp2
    go_ret
    exact ⟨⟨_, rfl, by rw [e.out]; exact irow_built w1 w.heap.size H1.out.size⟩, H1.out.alloc H1.out.size _⟩
  have e : Hid (res = idleK l len) := by show res = _; rw [Hv.out]; rfl
  have h40 := H40.out (by first | exact trivial | exact rfl)
  have hl40 := h40.1
  have Hr : Hid (∀ k, k < len → (ruAt l k).ok = true) := h40.2
  have CF1 := CF.out h40.2
  have CF2 : Hid _ := CF1
  clear H40 h40 Hv CF CF1
  have M0 : Hid (ISet (w1.alloc (.map #[] 0)) w1.heap.size 0 (idleS l 0) ∧ Below w.heap.size w (w1.alloc (.map #[] 0)) ∧ RusAt (w1.alloc (.map #[] 0)) a0 l ∧ w.heap.size ≤ w1.heap.size) := by
    refine ⟨?_, H1.out.alloc H1.out.size _, (h.out.below H1.out).alloc _, H1.out.size⟩
    have : idleS l 0 = fun _ => false := by funext x; simp [idleS, idleK]
    rw [this]
    exact ISet.made w1
  go_wp2_with fail
  obtain ⟨M, hM⟩ : ∃ M, w1.heap.size = M := ⟨_, rfl⟩
  rw [hM] at M0 ⊢
  generalize w1.alloc (.map #[] 0) = w2 at M0 ⊢
  clear hM H1
  go_loopw [13] (fun i wr => ∃ k n : Nat, k ≤ len ∧ n ≤ k ∧ i = .int .i64 k ∧ Hid (ISet wr M n (idleS l k) ∧ Below w.heap.size w wr ∧ RusAt wr a0 l)) (fun i _ => len - (intOf i).toNat)
  case atStart => exact ⟨0, 0, Nat.zero_le _, Nat.le_refl _, rfl, M0.out.1, M0.out.2.1, M0.out.2.2.1⟩
  case round =>
    obtain ⟨k, n, hk, hnk, rfl, H2⟩ := hrel
    by_cases hlt : k < len
    · obtain ⟨a1, o1, ha1, hb1, -⟩ := H2.out.2.2 k (by rw [Hlen.out]; exact hlt)
      subst ha1
      have hlt' : (k : Int) < (len : Int) := by omega
      obtain ⟨c0, c1, c2, c3, c4, c5, c6, c7, c8, c9⟩ := H2.out.2.2.cells (k := k) (by rw [Hlen.out]; exact hlt)
      have hok : 1 ≤ (ruAt l k).id ∧ (ruAt l k).id ≤ 999 := by
        have := Hr.out k hlt
        unfold Ru.ok at this
        simp only [Bool.and_eq_true, inB_true] at this
        exact this.1
      have hS := HS.out k
      have CK1 := CF2.out k hlt
      generalize (List.range len).any (idleB l k) = bb at hS CK1
      generalize ruAt l k = r at c0 c1 c2 c3 c4 c5 c6 c7 c8 c9 hok hS CK1
      have HS2 : Hid _ := hS
      have CK2 : Hid _ := CK1
      have AD := fun w h => implAdd M n (idleS l k) r.id w (by omega) (wf_i (by omega) (by omega)) h
      have AD' : Hid _ := AD
      have H3 : Hid (ISet (wr.alloc (.cells #[.int .i64 r.id, .int .i64 r.prio, .int .i64 r.snet, .int .i64 r.sbits, .int .i64 r.dnet, .int .i64 r.dbits, .int .i64 r.proto, .int .i64 r.low, .int .i64 r.high, .int .i64 r.cls] 32)) M n (idleS l k) ∧ Below w.heap.size w (wr.alloc (.cells #[.int .i64 r.id, .int .i64 r.prio, .int .i64 r.snet, .int .i64 r.sbits, .int .i64 r.dnet, .int .i64 r.dbits, .int .i64 r.proto, .int .i64 r.low, .int .i64 r.high, .int .i64 r.cls] 32)) ∧ RusAt (wr.alloc (.cells #[.int .i64 r.id, .int .i64 r.prio, .int .i64 r.snet, .int .i64 r.sbits, .int .i64 r.dnet, .int .i64 r.dbits, .int .i64 r.proto, .int .i64 r.low, .int .i64 r.high, .int .i64 r.cls] 32)) (some ⟨a1, o1, none⟩) l ∧ Boxed (wr.alloc (.cells #[.int .i64 r.id, .int .i64 r.prio, .int .i64 r.snet, .int .i64 r.sbits, .int .i64 r.dnet, .int .i64 r.dbits, .int .i64 r.proto, .int .i64 r.low, .int .i64 r.high, .int .i64 r.cls] 32)) wr.heap.size #[.int .i64 r.id, .int .i64 r.prio, .int .i64 r.snet, .int .i64 r.sbits, .int .i64 r.dnet, .int .i64 r.dbits, .int .i64 r.proto, .int .i64 r.low, .int .i64 r.high, .int .i64 r.cls] 32) := ⟨H2.out.1.kept (Below.heap_alloc _ _ _ H2.out.1.lt), H2.out.2.1.alloc H2.out.2.1.size _, H2.out.2.2.alloc _, Boxed.new _ _ _⟩
      clear AD hS CK1
      go_wp2_with fail
      obtain ⟨B, hB⟩ : ∃ B, wr.heap.size = B := ⟨_, rfl⟩
      rw [hB] at H3 ⊢
      generalize wr.alloc (.cells #[.int .i64 r.id, .int .i64 r.prio, .int .i64 r.snet, .int .i64 r.sbits, .int .i64 r.dnet, .int .i64 r.dbits, .int .i64 r.proto, .int .i64 r.low, .int .i64 r.high, .int .i64 r.cls] 32) = w3 at H3 ⊢
      clear hB H2 c0 c1 c2 c3 c4 c5 c6 c7 c8 c9
      refine (CK2.out _ _ _ _ H3.out.2.2.1 H3.out.2.2.2).mono ?_
      rintro e4 w4 ⟨rfl, b4⟩
      have H4 : Hid (ISet w4 M n (idleS l k) ∧ Below w.heap.size w w4 ∧ RusAt w4 (some ⟨a1, o1, none⟩) l ∧ Boxed w4 B #[.int .i64 r.id, .int .i64 r.prio, .int .i64 r.snet, .int .i64 r.sbits, .int .i64 r.dnet, .int .i64 r.dbits, .int .i64 r.proto, .int .i64 r.low, .int .i64 r.high, .int .i64 r.cls] 32) := ⟨H3.out.1.kept (b4.block _ H3.out.1.lt), H3.out.2.1.trans (b4.mono H3.out.2.1.size), H3.out.2.2.1.below b4, H3.out.2.2.2.below H3.out.2.2.2.under b4⟩
      clear b4 H3
      have d0 : w4.cell? ⟨B, 0, none⟩ = some (.int .i64 r.id) := H4.out.2.2.2.cell 0 rfl
      cases bb
      · have HS3 : Hid (idleS l (k + 1) = idleS l k) := by show idleS l (k + 1) = _; rw [HS2.out]; rfl
        go_wp2
        go_roundw
        case rel => exact ⟨k + 1, n, by omega, by omega, by go_num, by show ISet w4 M n (idleS l (k + 1)) ∧ _ ∧ _; rw [HS3.out]; exact ⟨H4.out.1, H4.out.2.1, H4.out.2.2.1⟩⟩
        case measure => simp [intOf]; omega
      · have HS3 : Hid (idleS l (k + 1) = fun y => decide (y = r.id) || idleS l k y) := by show idleS l (k + 1) = _; rw [HS2.out]; rfl
        go_wp2_with fail
        refine (AD'.out _ H4.out.1).mono ?_
        rintro e5 w5 ⟨rfl, m5, g5⟩
        have H5 : Hid (ISet w5 M (n + 1) (idleS l (k + 1)) ∧ Below w.heap.size w w5 ∧ RusAt w5 (some ⟨a1, o1, none⟩) l) := ⟨by rw [HS3.out]; exact m5, H4.out.2.1.grown g5 H4.out.2.1.size (by rintro j e; cases e; exact M0.out.2.2.2), H4.out.2.2.1.aside H4.out.1 g5⟩
        clear m5 g5 H4 d0
        go_wp2
        go_roundw
        case rel => exact ⟨k + 1, n + 1, by omega, by omega, by go_num, H5⟩
        case measure => simp [intOf]; omega
    · obtain rfl : k = len := by omega
      go_wp2_with fail
      refine (RI'.out M n _ (by omega) H2.out.1).mono ?_
      rintro e5 w5 ⟨⟨v5, rfl, r5⟩, b5⟩
      have H5 : Hid (IRow w.heap.size w5 v5 (idleK l k) ∧ Below w.heap.size w w5) := ⟨r5.mono H2.out.2.1.size, H2.out.2.1.trans (b5.mono H2.out.2.1.size)⟩
      clear r5 b5 H2
      go_wp2
      go_ret
      exact ⟨⟨_, rfl, by rw [e.out]; exact H5.out.1⟩, H5.out.2⟩
end Go.Proofs.Ytdifegaokdoleaa
