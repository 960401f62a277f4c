/-
  The walks of slices.IndexFunc and slices.ContainsFunc on lists of items, and of the program's look for an id. By the verifier.
-/
import Derived.Test.YtleokmnhhhhcjaaRwCntI
namespace Go.Proofs.Ytleokmnhhhhcjaa
open Go.RowKit Go.Shelf

/-- A function that tells yes or no of a list, as long as all that lay lies. -/
structure IzTells (W0 : World) (g : FuncId) (fs cb : Array Value) (p : List It → Bool) : Prop where
  enters : Enters Try.prog g
  tells : ∀ (W : World) (ak : Option Addr) (ck : Nat) (l : List It), Below W0.heap.size W0 W → l.length ≤ 1048576 → ItsAt W ak l → Calls Try.prog g (fs ++ #[.slice ak l.length ck] ++ cb) W fun e w' => e = .returned (.bool (p l)) ∧ Below W.heap.size W w'

set_option maxHeartbeats 1600000 in
set_option maxRecDepth 100000 in
theorem implIndexZ (a : Option Addr) (cap : Nat) (l : List (List It)) (g : FuncId) (fs cb : Array Value) (p : List It → Bool) (w : World) (hT : l.length ≤ 1048576) (hin : ∀ k, k < l.length → (izAt l k).length ≤ 1048576) (h : Hid (IzAt w a l)) (ht : Hid (IzTells w g fs cb p)) :
    Calls Try.prog 53 #[.slice a l.length cap, .func (.func g) fs cb] w fun e w' => e = .returned (.int .i64 (if l.findIdx p < l.length then (l.findIdx p : Int) else -1)) ∧ Below w.heap.size w w' := by
  have eg : ∀ args w, (callFunc g args).run Try.prog w = .ok (.enter g args) w := ht.out.enters
  have Hin : Hid (∀ k, k < l.length → (izAt l k).length ≤ 1048576) := hin
  obtain ⟨len, hlen⟩ : ∃ n, l.length = n := ⟨_, rfl⟩
  have Hlen : Hid (l.length = len) := hlen
  obtain ⟨N, hN⟩ : ∃ N, l.findIdx p = N := ⟨_, rfl⟩
  have HN : Hid (l.findIdx p = N) := hN
  have hNl : N ≤ len := by rw [← hN, ← hlen]; exact List.findIdx_le_length
  rw [hlen] at hT ⊢
  rw [hN]
  clear hlen hN hin
  go_enter Try.func53, Try.ntmps53
  go_wp2
  go_loopw [8] (fun i wr => ∃ k : Nat, k ≤ N ∧ i = .int .i64 k ∧ Hid (Below w.heap.size w wr)) (fun i _ => len - (intOf i).toNat)
  case atStart => exact ⟨0, Nat.zero_le _, rfl, Below.refl _ _⟩
  case round =>
    obtain ⟨k, hk, rfl, H1⟩ := hrel
    by_cases hlt : k < len
    · have hkl : k < l.length := by rw [Hlen.out]; exact hlt
      obtain ⟨b1, o1, ak, ck, ha1, hb1, hc, hr, -⟩ := (h.out.below H1.out) k hkl
      subst ha1
      have HC := ht.out.tells wr ak ck (izAt l k) H1.out (Hin.out k hkl) hr
      have hlt' : (k : Int) < (len : Int) := by omega
      by_cases hkN : k = N
      · have hp : p (izAt l k) = true := by
          rw [izAt_lt hkl]
          have := List.findIdx_getElem (p := p) (xs := l) (w := by rw [HN.out, Hlen.out, ← hkN]; exact hlt)
          simpa only [HN.out, ← hkN] using this
        rw [hp] at HC
        clear hp hr hkl
        generalize (izAt l k).length = n at hc HC
        subst hkN
        go_wp2_with fail
        refine HC.mono ?_
        rintro e w' ⟨rfl, hb'⟩
        have B2 : Hid (Below w.heap.size w w') := H1.out.trans (hb'.mono H1.out.size)
        clear hb' H1 HC hc
        go_wp2
        go_ret
        exact ⟨by first | rfl | (rw [if_pos hlt]; rfl), B2.out⟩
      · have hp : p (izAt l k) = false := by
          rw [izAt_lt hkl]
          have := List.not_of_lt_findIdx (p := p) (xs := l) (i := k) (by rw [HN.out]; omega)
          simpa using this
        rw [hp] at HC
        clear hp hr hkl
        generalize (izAt l k).length = n at hc HC
        go_wp2_with fail
        refine HC.mono ?_
        rintro e w' ⟨rfl, hb'⟩
        have B2 : Hid (Below w.heap.size w w') := H1.out.trans (hb'.mono H1.out.size)
        clear hb' H1 HC hc
        go_wp2
        go_roundw
        case rel => exact ⟨k + 1, by omega, by go_num, B2⟩
        case measure => simp [intOf]; omega
    · obtain rfl : k = len := by omega
      obtain rfl : k = N := by omega
      go_wp2
      go_ret
      exact ⟨by first | rfl | (rw [if_neg (Nat.lt_irrefl _)]; rfl), H1.out⟩

set_option maxHeartbeats 1600000 in
theorem implContainsZ (a : Option Addr) (cap : Nat) (l : List (List It)) (g : FuncId) (fs cb : Array Value) (p : List It → Bool) (w : World) (hT : l.length ≤ 1048576) (hin : ∀ k, k < l.length → (izAt l k).length ≤ 1048576) (h : Hid (IzAt w a l)) (ht : Hid (IzTells w g fs cb p)) :
    Calls Try.prog 43 #[.slice a l.length cap, .func (.func g) fs cb] w fun e w' => e = .returned (.bool (l.any p)) ∧ Below w.heap.size w w' := by
  have I := fun (_ : Nat) => implIndexZ a cap l g fs cb p w hT hin h ht
  have Ha : Hid (decide (l.findIdx p < l.length) = l.any p) := any_idxT l p
  generalize l.any p = b at Ha ⊢
  generalize l.findIdx p = N at I Ha
  generalize l.length = len at I Ha ⊢
  have I' : Hid _ := I
  clear I hT hin h ht
  go_enter Try.func43, Try.ntmps43
  go_wp2_with fail
  refine (I'.out 0).mono ?_
  rintro e w' ⟨rfl, hb⟩
  have B2 : Hid (Below w.heap.size w w') := hb
  clear hb I'
  by_cases hk : N < len
  · rw [if_pos hk]
    have hp : (0 : Int) ≤ (N : Int) := by omega
    go_wp2
    go_ret
    exact ⟨ret_bool (by rw [← Ha.out, decide_eq_true hk]), B2.out⟩
  · rw [if_neg hk]
    go_wp2
    go_ret
    exact ⟨ret_bool (by rw [← Ha.out, decide_eq_false hk]), B2.out⟩

set_option maxHeartbeats 1600000 in
theorem implIsId (r : It) (id : Int) (B : Nat) (w : World) (hB : Hid (Boxed w B #[.int .i64 id] 2)) :
    Calls Try.prog 46 #[r.val, .pointer (some ⟨B, 0, none⟩)] w fun e w' => e = .returned (.bool (decide (r.id = id))) ∧ Below w.heap.size w w' := by
  obtain ⟨i, p, s⟩ := r
  simp only [It.val]
  have c : w.cell? ⟨B, 0, none⟩ = some (.int .i64 id) := hB.out.cell 0 rfl
  have hl : B < w.heap.size := hB.out.under
  have hne : ¬ w.heap.size = B := by omega
  have hne2 : ¬ B = w.heap.size := by omega
  have H : Hid (Below w.heap.size w (w.alloc (.cells #[.int .i64 i, .int .i64 p, .int .i64 s] 28))) := (Below.refl _ _).alloc (Nat.le_refl _) _
  go_enter Try.func46, Try.ntmps46
  go_wp2
  go_ret
  exact ⟨rfl, H.out⟩
theorem isIdTells (id : Int) (B : Nat) (w : World) (hB : Boxed w B #[.int .i64 id] 2) : ItTells w (fun k => k = B) 46 #[] #[.pointer (some ⟨B, 0, none⟩)] (fun _ => True) (fun r => decide (r.id = id)) :=
  ⟨enters_of Try.func46 (by kernel_rfl) rfl, fun k hk => by rw [hk]; exact hB.under, fun W r _ hW => implIsId r id B W ((hW B rfl).trans hB)⟩

set_option maxHeartbeats 1600000 in
theorem implInList (ak : Option Addr) (ck : Nat) (l : List It) (id : Int) (B : Nat) (w : World) (hT : l.length ≤ 1048576) (h : ItsAt w ak l) (hB : Boxed w B #[.int .i64 id] 2) :
    Calls Try.prog 44 #[.slice ak l.length ck, .pointer (some ⟨B, 0, none⟩)] w fun e w' => e = .returned (.bool (l.any fun r => decide (r.id = id))) ∧ Below w.heap.size w w' := by
  have C := fun (_ : Nat) => implContainsT ak ck l 46 #[] #[.pointer (some ⟨B, 0, none⟩)] (fun k => k = B) (fun _ => True) (fun r => decide (r.id = id)) w hT h (fun _ _ => trivial) (isIdTells id B w hB)
  generalize (l.any fun r => decide (r.id = id)) = z at C ⊢
  generalize l.length = n at C ⊢
  have hmf : ∀ (fn : Fn) (first cap : Array Value) (w : World), (Instr.makeFunc fn first cap).run Try.prog w = .ok (.func fn first cap) w := fun _ _ _ _ => rfl
  have C' : Hid _ := C
  clear C h hB hT
  go_enter Try.func44, Try.ntmps44
  go_wp2_with fail
  refine (C'.out 0).mono ?_
  rintro e w' ⟨rfl, hb⟩
  have B2 : Hid (Below w.heap.size w w') := hb
  clear hb C'
  go_wp2
  go_ret
  exact ⟨rfl, B2.out⟩

theorem has_any (r : Rw) (id : Int) : r.has id = r.lists.any fun l => l.any fun i => decide (i.id = id) := by
  unfold Rw.has Rw.all
  rw [Bool.eq_iff_iff, decide_eq_true_iff, List.any_eq_true]
  constructor
  · intro h
    obtain ⟨i, hi, e⟩ := List.mem_map.1 h
    obtain ⟨l, hl, hi⟩ := List.mem_flatten.1 hi
    exact ⟨l, hl, List.any_eq_true.2 ⟨i, hi, decide_eq_true e⟩⟩
  · rintro ⟨l, hl, h⟩
    obtain ⟨i, hi, e⟩ := List.any_eq_true.1 h
    exact List.mem_map.2 ⟨i, List.mem_flatten.2 ⟨l, hl, hi⟩, of_decide_eq_true e⟩

set_option maxHeartbeats 1600000 in
theorem implHasR (r : Rw) (a : Option Addr) (c : Nat) (id : Int) (w : World) (hB : r.big ≤ 1048576) (h : Hid (IzAt w a r.lists)) :
    Calls Try.prog 26 #[r.val a c, .int .i64 id] w fun e w' => e = .returned (.bool (r.has id)) ∧ Below w.heap.size w w' := by
  obtain ⟨hT, -, hin⟩ := Rw.small hB
  rw [has_any]
  have C := fun (B : Nat) (w : World) (h : IzAt w a r.lists) (hB : Boxed w B #[.int .i64 id] 2) => implContainsZ a c r.lists 44 #[] #[.pointer (some ⟨B, 0, none⟩)] (fun l => l.any fun i => decide (i.id = id)) w hT hin h ⟨enters_of Try.func44 (by kernel_rfl) rfl, fun W ak ck l hW hl hr => implInList ak ck l id B W hl hr (hB.below hB.under hW)⟩
  generalize (r.lists.any fun l => l.any fun i => decide (i.id = id)) = z at C ⊢
  unfold Rw.val
  have X : Hid (IzAt ((w.alloc (.cells #[.int .i64 r.most, .slice a r.lists.length c] 26)).alloc (.cells #[.int .i64 id] 2)) a r.lists ∧ Boxed ((w.alloc (.cells #[.int .i64 r.most, .slice a r.lists.length c] 26)).alloc (.cells #[.int .i64 id] 2)) (w.heap.size + 1) #[.int .i64 id] 2 ∧ Below w.heap.size w ((w.alloc (.cells #[.int .i64 r.most, .slice a r.lists.length c] 26)).alloc (.cells #[.int .i64 id] 2))) := by
    refine ⟨(h.out.alloc _).alloc _, ?_, ((Below.refl _ _).alloc (Nat.le_refl _) _).alloc (by simp) _⟩
    have := Boxed.new (w.alloc (.cells #[.int .i64 r.most, .slice a r.lists.length c] 26)) #[.int .i64 id] 2
    simpa using this
  have hmf : ∀ (fn : Fn) (first cap : Array Value) (w : World), (Instr.makeFunc fn first cap).run Try.prog w = .ok (.func fn first cap) w := fun _ _ _ _ => rfl
  generalize r.lists.length = n at C X ⊢
  generalize r.most = f at X ⊢
  have C' : Hid _ := C
  clear C h hB hT hin
  go_enter Try.func26, Try.ntmps26
  go_wp2_with fail
  refine (C'.out _ _ X.out.1 X.out.2.1).mono ?_
  rintro e w' ⟨rfl, hb⟩
  have B2 : Hid (Below w.heap.size w w') := X.out.2.2.trans (hb.mono X.out.2.2.size)
  clear hb X C'
  go_wp2
  go_ret
  exact ⟨rfl, B2.out⟩
end Go.Proofs.Ytleokmnhhhhcjaa
