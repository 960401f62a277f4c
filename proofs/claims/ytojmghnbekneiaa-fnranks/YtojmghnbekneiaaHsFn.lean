/-
  The walks of slices.IndexFunc and slices.ContainsFunc on hosts, for whatever function tells yes or no; of the program's isPlace, behind, hostOk and DealOk. By the verifier.
-/
import Derived.Test.YtojmghnbekneiaaDlFn
import Derived.Test.YtojmghnbekneiaaM2OneN
import Derived.Test.YtojmghnbekneiaaStepRow
import Derived.Shelf.Abstract
namespace Go.Proofs.Ytojmghnbekneiaa
open Go.RowKit Go.Shelf

set_option maxHeartbeats 1600000 in
theorem implPlace (n : Nat) (p : Int) (w : World) (hn : n ≤ 1048576) :
    Calls Try.prog 29 #[.int .i64 (n : Int), .int .i64 p] w fun e w' => e = .returned (.bool (inB 0 ((n : Int) - 1) p)) ∧ w' = w.alloc (.cells #[.int .i64 p] 2) := by
  have A := fun B w h => implUpTo1 ((n : Int) - 1) p w B h
  generalize inB 0 ((n : Int) - 1) p = y at A ⊢
  have A' : Hid _ := A
  clear A
  have q1 : -9223372036854775808 ≤ (n : Int) - 1 := by omega
  have q2 : (n : Int) - 1 ≤ 9223372036854775807 := by omega
  go_enter Try.func29, Try.ntmps29
  go_wp2_with fail
  refine (A'.out _ _ (by simp)).mono ?_
  rintro e w' ⟨rfl, rfl⟩
  go_wp2
  go_ret
  exact ⟨rfl, rfl⟩

theorem tmod_next (i n : Nat) : Int.tmod ((i : Int) + 1) (n : Int) = (((i + 1) % n : Nat) : Int) := by
  rw [show (i : Int) + 1 = ((i + 1 : Nat) : Int) by push_cast; rfl]
  rfl
set_option maxHeartbeats 1600000 in
theorem implBehind (i n : Nat) (w : World) (hi : i < n) (hn : n ≤ 1048576) :
    Calls Try.prog 24 #[.int .i64 (i : Int), .int .i64 (n : Int)] w fun e w' => e = .returned (.int .i64 (((i + 1) % n : Nat) : Int)) ∧ w' = w := by
  have kt := tmod_next i n
  have kl : (i + 1) % n < n := Nat.mod_lt _ (by omega)
  have kw1 : IntKind.i64.wrap ((i : Int) + 1) = (i : Int) + 1 := by rw [IntKind.wrap_i64]; omega
  have kw2 : IntKind.i64.wrap (((i + 1) % n : Nat) : Int) = (((i + 1) % n : Nat) : Int) := by rw [IntKind.wrap_i64]; omega
  have hnz : ¬ (n : Int) = 0 := by omega
  generalize (i + 1) % n = j at kt kl kw2 ⊢
  go_enter Try.func24, Try.ntmps24
  go_wp2
  go_ret
  exact ⟨by first | rfl | simp [kt, kw1, kw2], rfl⟩

set_option maxHeartbeats 3200000 in
theorem implHostOk (h : Hs) (a : Option Addr) (c : Nat) (w : World) (hT : h.flows.length ≤ 1048576) (H : Hid (IntsAt w a h.flows)) :
    Calls Try.prog 32 #[h.val a c] w fun e w' => e = .returned (.bool h.ok) ∧ Below w.heap.size w w' := by
  have Hok : Hid (h.ok = (inB 1 8 (h.flows.length : Int) && (inB 0 ((h.flows.length : Int) - 1) h.turn && h.flows.all (inB 0 1000)))) := rfl
  have A1 := fun B w hh => implFromOne 8 (h.flows.length : Int) B w hh
  have A2 := fun w => implPlace h.flows.length h.turn w hT
  have A3 := fun w hh => implUpTo 1000 a c h.flows w hT hh
  generalize h.ok = ok at Hok ⊢
  have HI : Hid (∀ w', Below w.heap.size w w' → IntsAt w' a h.flows) := fun w' g => H.out.below g
  generalize h.flows.all (inB 0 1000) = b3 at A3 Hok
  obtain ⟨t, fl⟩ := h
  simp only [Hs.val] at Hok A1 A2 A3 HI ⊢
  generalize fl.length = n at Hok A1 A2 A3 ⊢
  generalize inB 1 8 (n : Int) = b1 at A1 Hok
  generalize inB 0 ((n : Int) - 1) t = b2 at A2 Hok
  have A1' : Hid _ := A1
  have A2' : Hid _ := A2
  have A3' : Hid _ := A3
  clear A1 A2 A3 H hT
  go_enter Try.func32, Try.ntmps32
  cases b1
  · go_wp2_with fail
    refine (A1'.out _ _ (by simp)).mono ?_
    rintro e w' ⟨rfl, rfl⟩
    go_wp2
    go_ret
    exact ⟨ret_bool (by rw [Hok.out]; rfl), ((Below.refl _ _).alloc (Nat.le_refl _) _).alloc (by simp) _⟩
  cases b2
  · go_wp2_with fail
    refine (A1'.out _ _ (by simp)).mono ?_
    rintro e w' ⟨rfl, rfl⟩
    go_wp2_with fail
    refine (A2'.out _).mono ?_
    rintro e w' ⟨rfl, rfl⟩
    go_wp2
    go_ret
    exact ⟨ret_bool (by rw [Hok.out]; rfl), (((Below.refl _ _).alloc (Nat.le_refl _) _).alloc (by simp) _).alloc (by simp; omega) _⟩
  go_wp2_with fail
  refine (A1'.out _ _ (by simp)).mono ?_
  rintro e w' ⟨rfl, rfl⟩
  go_wp2_with fail
  refine (A2'.out _).mono ?_
  rintro e w' ⟨rfl, rfl⟩
  go_wp2_with fail
  refine (A3'.out _ (HI.out _ ((((Below.refl _ _).alloc (Nat.le_refl _) _).alloc (by simp) _).alloc (by simp; omega) _))).mono ?_
  rintro e w' ⟨rfl, rfl⟩
  go_wp2
  go_ret
  exact ⟨ret_bool (by rw [Hok.out]; rfl), (((Below.refl _ _).alloc (Nat.le_refl _) _).alloc (by simp) _).alloc (by simp; omega) _⟩

/-- A function that tells yes or no of a host, as long as all that lay lies. -/
structure HsTells (W0 : World) (g : FuncId) (fs cb : Array Value) (p : Hs → Bool) : Prop where
  enters : Enters Try.prog g
  tells : ∀ (W : World) (ak : Option Addr) (ck : Nat) (h : Hs), Below W0.heap.size W0 W → h.flows.length ≤ 1048576 → IntsAt W ak h.flows → Calls Try.prog g (fs ++ #[h.val ak ck] ++ cb) W fun e w' => e = .returned (.bool (p h)) ∧ Below W.heap.size W w'

set_option maxHeartbeats 1600000 in
set_option maxRecDepth 100000 in
theorem implIndexH (a : Option Addr) (cap : Nat) (l : List Hs) (g : FuncId) (fs cb : Array Value) (p : Hs → Bool) (w : World) (hT : l.length ≤ 1048576) (hin : ∀ k, k < l.length → (hsAt l k).flows.length ≤ 1048576) (h : Hid (HssAt w a l)) (ht : Hid (HsTells w g fs cb p)) :
    Calls Try.prog 41 #[.slice a l.length cap, .func (.func g) fs cb] w fun e w' => e = .returned (.int .i64 (if l.findIdx p < l.length then (l.findIdx p : Int) else -1)) ∧ Below w.heap.size w w' := by
  have eg : ∀ args w, (callFunc g args).run Try.prog w = .ok (.enter g args) w := ht.out.enters
  have Hin : Hid (∀ k, k < l.length → (hsAt l k).flows.length ≤ 1048576) := hin
  obtain ⟨len, hlen⟩ : ∃ n, l.length = n := ⟨_, rfl⟩
  have Hlen : Hid (l.length = len) := hlen
  obtain ⟨N, hN⟩ : ∃ N, l.findIdx p = N := ⟨_, rfl⟩
  have HN : Hid (l.findIdx p = N) := hN
  have hNl : N ≤ len := by rw [← hN, ← hlen]; exact List.findIdx_le_length
  rw [hlen] at hT ⊢
  rw [hN]
  clear hlen hN hin
  go_enter Try.func41, Try.ntmps41
  go_wp2
  go_loopw [8] (fun i wr => ∃ k : Nat, k ≤ N ∧ i = .int .i64 k ∧ Hid (Below w.heap.size w wr)) (fun i _ => len - (intOf i).toNat)
  case atStart => exact ⟨0, Nat.zero_le _, rfl, Below.refl _ _⟩
  case round =>
    obtain ⟨k, hk, rfl, H1⟩ := hrel
    by_cases hlt : k < len
    · have hkl : k < l.length := by rw [Hlen.out]; exact hlt
      obtain ⟨b1, o1, ak, ck, ha1, hb1, ⟨c0, c1⟩, hr, -⟩ := (h.out.below H1.out) k hkl
      subst ha1
      have HC := ht.out.tells wr ak ck (hsAt l k) H1.out (Hin.out k hkl) hr
      unfold Hs.val at HC
      have hlt' : (k : Int) < (len : Int) := by omega
      by_cases hkN : k = N
      · have hp : p (hsAt l k) = true := by
          rw [hsAt_lt hkl]
          have := List.findIdx_getElem (p := p) (xs := l) (w := by rw [HN.out, Hlen.out, ← hkN]; exact hlt)
          simpa only [HN.out, ← hkN] using this
        rw [hp] at HC
        clear hp hr hkl
        generalize (hsAt l k).flows.length = n at c1 HC
        generalize (hsAt l k).turn = t at c0 HC
        subst hkN
        go_wp2_with fail
        refine HC.mono ?_
        rintro e w' ⟨rfl, hb'⟩
        have B2 : Hid (Below w.heap.size w w') := H1.out.trans (hb'.mono H1.out.size)
        clear hb' H1 HC c0 c1
        go_wp2
        go_ret
        exact ⟨by first | rfl | (rw [if_pos hlt]; rfl), B2.out⟩
      · have hp : p (hsAt l k) = false := by
          rw [hsAt_lt hkl]
          have := List.not_of_lt_findIdx (p := p) (xs := l) (i := k) (by rw [HN.out]; omega)
          simpa using this
        rw [hp] at HC
        clear hp hr hkl
        generalize (hsAt l k).flows.length = n at c1 HC
        generalize (hsAt l k).turn = t at c0 HC
        go_wp2_with fail
        refine HC.mono ?_
        rintro e w' ⟨rfl, hb'⟩
        have B2 : Hid (Below w.heap.size w w') := H1.out.trans (hb'.mono H1.out.size)
        clear hb' H1 HC c0 c1
        go_wp2
        go_roundw
        case rel => exact ⟨k + 1, by omega, by go_num, B2⟩
        case measure => simp [intOf]; omega
    · obtain rfl : k = len := by omega
      obtain rfl : k = N := by omega
      go_wp2
      go_ret
      exact ⟨by first | rfl | (rw [if_neg (Nat.lt_irrefl _)]; rfl), H1.out⟩

theorem any_idxH {α : Type} (l : List α) (p : α → Bool) : decide (l.findIdx p < l.length) = l.any p := by
  rw [Bool.eq_iff_iff, decide_eq_true_iff, List.findIdx_lt_length, List.any_eq_true]

set_option maxHeartbeats 1600000 in
theorem implContainsH (a : Option Addr) (cap : Nat) (l : List Hs) (g : FuncId) (fs cb : Array Value) (p : Hs → Bool) (w : World) (hT : l.length ≤ 1048576) (hin : ∀ k, k < l.length → (hsAt l k).flows.length ≤ 1048576) (h : Hid (HssAt w a l)) (ht : Hid (HsTells w g fs cb p)) :
    Calls Try.prog 30 #[.slice a l.length cap, .func (.func g) fs cb] w fun e w' => e = .returned (.bool (l.any p)) ∧ Below w.heap.size w w' := by
  have I := fun (_ : Nat) => implIndexH a cap l g fs cb p w hT hin h ht
  have Ha : Hid (decide (l.findIdx p < l.length) = l.any p) := any_idxH l p
  generalize l.any p = b at Ha ⊢
  generalize l.findIdx p = N at I Ha
  generalize l.length = len at I Ha ⊢
  have I' : Hid _ := I
  clear I hT hin h ht
  go_enter Try.func30, Try.ntmps30
  go_wp2_with fail
  refine (I'.out 0).mono ?_
  rintro e w' ⟨rfl, hb⟩
  have B2 : Hid (Below w.heap.size w w') := hb
  clear hb I'
  by_cases hk : N < len
  · rw [if_pos hk]
    have hp : (0 : Int) ≤ (N : Int) := by omega
    go_wp2
    go_ret
    exact ⟨ret_bool (by rw [← Ha.out, decide_eq_true hk]), B2.out⟩
  · rw [if_neg hk]
    go_wp2
    go_ret
    exact ⟨ret_bool (by rw [← Ha.out, decide_eq_false hk]), B2.out⟩

set_option maxHeartbeats 1600000 in
theorem implNotHost (h : Hs) (a : Option Addr) (c : Nat) (w : World) (hT : h.flows.length ≤ 1048576) (H : IntsAt w a h.flows) :
    Calls Try.prog 31 #[h.val a c] w fun e w' => e = .returned (.bool (!h.ok)) ∧ Below w.heap.size w w' := by
  have C := fun (w : World) hh => implHostOk h a c w hT hh
  generalize h.ok = ok at C ⊢
  have HI : Hid (∀ w', Below w.heap.size w w' → IntsAt w' a h.flows) := fun w' g => H.below g
  obtain ⟨t, fl⟩ := h
  simp only [Hs.val] at C HI ⊢
  generalize fl.length = n at C ⊢
  have C' : Hid _ := C
  clear C H hT
  have hB : Hid (Below w.heap.size w (w.alloc (.cells #[.int .i64 t, .slice a n c] 35))) := (Below.refl _ _).alloc (Nat.le_refl _) _
  go_enter Try.func31, Try.ntmps31
  go_wp2_with fail
  refine (C'.out _ (HI.out _ hB.out)).mono ?_
  rintro e w1 ⟨rfl, b1⟩
  have B : Hid (Below w.heap.size w w1) := hB.out.trans (b1.mono hB.out.size)
  clear b1 hB
  go_wp2
  go_ret
  exact ⟨rfl, B.out⟩

theorem hosts_any (l : List Hs) : (!l.any fun h => !h.ok) = l.all Hs.ok := by
  induction l with
  | nil => rfl
  | cons x r ih => simp only [List.any_cons, List.all_cons, Bool.not_or, Bool.not_not, ih]

set_option maxHeartbeats 3200000 in
set_option maxRecDepth 100000 in
theorem implDealOk (d : Dl) (v : Value) (w : World) (hB : d.big ≤ 1048576) (h : Hid (DlAt w v d)) :
    Calls Try.prog 10 #[v] w fun e w' => e = .returned (.bool d.ok) ∧ Below w.heap.size w w' := by
  obtain ⟨a, c, rfl, k1⟩ := h.out
  clear h
  obtain ⟨hT, -, hin⟩ := Dl.small hB
  have Hok : Hid (d.ok = (inB 1 8 (d.hosts.length : Int) && (inB 0 ((d.hosts.length : Int) - 1) d.turn && !d.hosts.any fun h => !h.ok))) := by
    show d.ok = _
    rw [hosts_any]
    rfl
  have A1 := fun B w hh => implFromOne 8 (d.hosts.length : Int) B w hh
  have A2 := fun w => implPlace d.hosts.length d.turn w hT
  have A3 := fun (w : World) (hh : HssAt w a d.hosts) => implContainsH a c d.hosts 31 #[] #[] (fun h => !h.ok) w hT hin hh ⟨enters_of Try.func31 (by kernel_rfl) rfl, fun W ak ck l _ hl hr => implNotHost l ak ck W hl hr⟩
  generalize d.ok = ok at Hok ⊢
  have HI : Hid (∀ w', Below w.heap.size w w' → HssAt w' a d.hosts) := fun w' g => k1.below g
  generalize (d.hosts.any fun h => !h.ok) = b3 at A3 Hok
  obtain ⟨t, fl⟩ := d
  simp only [Dl.val] at Hok A1 A2 A3 HI ⊢
  generalize fl.length = n at Hok A1 A2 A3 ⊢
  generalize inB 1 8 (n : Int) = b1 at A1 Hok
  generalize inB 0 ((n : Int) - 1) t = b2 at A2 Hok
  have A1' : Hid _ := A1
  have A2' : Hid _ := A2
  have A3' : Hid _ := A3
  clear A1 A2 A3 k1 hT hin hB
  go_enter Try.func10, Try.ntmps10
  cases b1
  · go_wp2_with fail
    refine (A1'.out _ _ (by simp)).mono ?_
    rintro e w' ⟨rfl, rfl⟩
    go_wp2
    go_ret
    exact ⟨ret_bool (by rw [Hok.out]; rfl), ((Below.refl _ _).alloc (Nat.le_refl _) _).alloc (by simp) _⟩
  cases b2
  · go_wp2_with fail
    refine (A1'.out _ _ (by simp)).mono ?_
    rintro e w' ⟨rfl, rfl⟩
    go_wp2_with fail
    refine (A2'.out _).mono ?_
    rintro e w' ⟨rfl, rfl⟩
    go_wp2
    go_ret
    exact ⟨ret_bool (by rw [Hok.out]; rfl), (((Below.refl _ _).alloc (Nat.le_refl _) _).alloc (by simp) _).alloc (by simp; omega) _⟩
  go_wp2_with fail
  refine (A1'.out _ _ (by simp)).mono ?_
  rintro e w' ⟨rfl, rfl⟩
  go_wp2_with fail
  refine (A2'.out _).mono ?_
  rintro e w' ⟨rfl, rfl⟩
  have b0 : Hid (Below w.heap.size w (((w.alloc (.cells #[.int .i64 t, .slice a n c] 26)).alloc (.cells #[.int .i64 (n : Int)] 2)).alloc (.cells #[.int .i64 t] 2))) := (((Below.refl _ _).alloc (Nat.le_refl _) _).alloc (by simp) _).alloc (by simp; omega) _
  go_wp2_with fail
  refine (A3'.out _ (HI.out _ b0.out)).mono ?_
  rintro e w' ⟨rfl, q⟩
  have B2 : Hid (Below w.heap.size w w') := b0.out.trans (q.mono b0.out.size)
  clear q b0
  go_wp2
  go_ret
  exact ⟨ret_bool (by rw [Hok.out]; rfl), B2.out⟩
end Go.Proofs.Ytojmghnbekneiaa
