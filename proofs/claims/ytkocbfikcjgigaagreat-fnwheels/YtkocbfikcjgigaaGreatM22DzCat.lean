import Derived.Test.YtkocbfikcjgigaaGreatM18DuIns
import Derived.Test.YtkocbfikcjgigaaGreatM21DuSearch
import Derived.Test.YtkocbfikcjgigaaGreatM4DzGrow
import Derived.Test.YtkocbfikcjgigaaGreatM5WhFn
import Derived.Lib.AppendZeros
import Derived.Deep.DeepCutAuto
/-
  The walks of the program's orderlyOf and HeapOk. By the verifier.
-/
namespace Go.Proofs.YtkocbfikcjgigaaGreat
open Go.RowKit Go.Shelf

theorem sorted_rise {l : List Du} (h : Sorted l) : riseK l l.length = true ↔ l.Nodup := by
  rw [riseK_is]
  constructor
  · intro q
    exact (rise_adj q).nodup
  · intro q k k0 hk
    have h1 := h (k - 1) k (by omega) hk
    apply Classical.byContradiction
    intro n
    have e := Du.eq_of n h1
    rw [duAt_lt hk, duAt_lt (by omega : k - 1 < l.length)] at e
    have := (List.getElem_inj q).1 e
    omega
theorem hok_prog {l l' : List Du} (hp : l'.Perm l) (hs : Sorted l') : hok l = (decide ((l.length : Int) ≤ 60) && (l.all Du.ok && (heapK l l.length && riseK l' l'.length))) := by
  rw [Bool.eq_iff_iff, hok_is]
  simp only [Bool.and_eq_true, decide_eq_true_eq, List.all_eq_true, heapK_is, sorted_rise hs, hp.nodup_iff]
  constructor
  · rintro ⟨h1, h2, h3, h4⟩
    exact ⟨by omega, h2, h4, h3⟩
  · rintro ⟨h1, h2, h3, h4⟩
    exact ⟨by omega, h2, h4, h3⟩

set_option maxHeartbeats 1600000 in
theorem implOrderly (a : Option Addr) (cap : Nat) (l : List Du) (w : World) (hT : l.length ≤ 1048576) (h : Hid (DusAt w a l)) :
    Calls Tryz.prog 27 #[.slice a l.length cap] w fun e w' => ∃ g l', e = .returned (.slice (some ⟨g, 0, none⟩) l'.length l'.length) ∧ l'.Perm l ∧ Sorted l' ∧ DuRow w.heap.size w' (.slice (some ⟨g, 0, none⟩) l'.length l'.length) l' ∧ Below w.heap.size w w' := by
  have C := fun (_ : Nat) => implCopyDu a cap l w hT h
  have S := fun g w2 hr => implSort g l.length l w.heap.size w2 hT hr
  obtain ⟨n, hn⟩ : ∃ n, l.length = n := ⟨_, rfl⟩
  rw [hn] at C S ⊢
  have Hn : Hid (l.length = n) := hn
  have C' : Hid _ := C
  have S' : Hid _ := S
  clear C S h hn hT
  go_enter Tryz.func27, Tryz.ntmps27
  go_wp2_with fail
  refine (C'.out 0).mono ?_
  rintro e w1 ⟨g, rfl, q1, q2⟩
  have X : Hid (DuRow w.heap.size w1 (.slice (some ⟨g, 0, none⟩) n n) l ∧ Below w.heap.size w w1) := ⟨q1, q2⟩
  clear q1 q2 C'
  go_wp2_with fail
  refine (S'.out g _ X.out.1).mono ?_
  rintro e w2 ⟨rfl, l', p1, p2, p3, p4, p5⟩
  have Y : Hid (l'.Perm l ∧ Sorted l' ∧ DuRow w.heap.size w2 (.slice (some ⟨g, 0, none⟩) l'.length l'.length) l' ∧ Below w.heap.size w w2) := by
    have e : l'.length = n := by rw [p1.length_eq]; exact Hn.out
    refine ⟨p1, p2, ?_, X.out.2.trans (p4.mono (World.ownsRow.lt X.out.1 g rfl).1)⟩
    rw [e] at p3 ⊢
    exact p3
  have e : Hid (n = l'.length) := by show n = l'.length; rw [p1.length_eq]; exact Hn.out.symm
  clear p1 p2 p3 p4 p5 S' X
  go_wp2
  go_ret
  exact ⟨g, l', by rw [← e.out]; rfl, Y.out⟩

set_option maxHeartbeats 1600000 in
theorem implHeapOk (l : List Du) (a : Option Addr) (cap : Nat) (w : World) (hT : l.length ≤ 1048576) (h : Hid (DusAt w a l)) :
    Calls Tryz.prog 21 #[.slice a l.length cap] w fun e w' => e = .returned (.bool (hok l)) ∧ Below w.heap.size w w' := by
  have A1 := fun (w : World) (hh : DusAt w a l) => implEachDu a cap l w hT hh
  have A2 := fun (w : World) (hh : DusAt w a l) => implIsHeap a cap l w hT hh
  have A3 := fun (w : World) (hh : DusAt w a l) => implOrderly a cap l w hT hh
  have A4 := fun (a' : Option Addr) (c' : Nat) (l' : List Du) (w : World) (hp : l'.Perm l) (hh : DusAt w a' l') => implRises a' c' l' w (by rw [hp.length_eq]; exact hT) hh
  have HP : Hid (∀ l' : List Du, l'.Perm l → Sorted l' → hok l = (decide ((l.length : Int) ≤ 60) && (l.all Du.ok && (heapK l l.length && riseK l' l'.length)))) := fun l' hp hs => hok_prog hp hs
  have HN : Hid ((decide ((l.length : Int) ≤ 60) && (l.all Du.ok && heapK l l.length)) = false → hok l = false) := fun q => by
    cases e : hok l with
    | false => rfl
    | true =>
      obtain ⟨h1, h2, h3, h4⟩ := hok_is.1 e
      have q1 : decide ((l.length : Int) ≤ 60) = true := decide_eq_true (by omega)
      have q2 : l.all Du.ok = true := List.all_eq_true.2 h2
      have q3 : heapK l l.length = true := (heapK_is l).2 h4
      rw [q1, q2, q3] at q
      cases q
  have HI : Hid (∀ w', Below w.heap.size w w' → DusAt w' a l) := fun w' g => h.out.below g
  generalize hok l = R at HP HN ⊢
  generalize l.all Du.ok = b1 at A1 HP HN
  generalize heapK l l.length = b2 at A2 HP HN
  generalize l.length = n at A1 A2 A3 HP HN ⊢
  have A1' : Hid _ := A1
  have A2' : Hid _ := A2
  have A3' : Hid _ := A3
  have A4' : Hid _ := A4
  clear A1 A2 A3 A4 h hT
  by_cases hn : (n : Int) ≤ 60
  · have hd : decide ((n : Int) ≤ 60) = true := decide_eq_true hn
    go_enter Tryz.func21, Tryz.ntmps21
    go_wp2_with fail
    refine (A1'.out _ (HI.out _ (Below.refl _ _))).mono ?_
    rintro e w1 ⟨rfl, q1⟩
    have B1 : Hid (Below w.heap.size w w1) := q1
    clear q1
    cases b1
    · have e := HN.out (by rw [hd]; rfl)
      have E : Hid _ := e
      clear e
      go_wp2
      go_ret
      exact ⟨ret_bool E.out.symm, B1.out⟩
    go_wp2_with fail
    refine (A2'.out _ (HI.out _ B1.out)).mono ?_
    rintro e w2 ⟨rfl, q2⟩
    have B2 : Hid (Below w.heap.size w w2) := B1.out.trans (q2.mono B1.out.size)
    clear q2
    cases b2
    · have e := HN.out (by rw [hd]; rfl)
      have E : Hid _ := e
      clear e
      go_wp2
      go_ret
      exact ⟨ret_bool E.out.symm, B2.out⟩
    go_wp2_with fail
    refine (A3'.out _ (HI.out _ B2.out)).mono ?_
    rintro e w3 ⟨g, l', rfl, p1, p2, p3, p4⟩
    have B3 : Hid (Below w.heap.size w w3) := B2.out.trans (p4.mono B2.out.size)
    have C4 := fun (_ : Nat) => A4'.out (some ⟨g, 0, none⟩) l'.length l' w3 p1 p3.at
    have E := HP.out l' p1 p2
    rw [hd] at E
    generalize riseK l' l'.length = z at C4 E
    generalize l'.length = m at C4 ⊢
    have C4' : Hid _ := C4
    have E' : Hid _ := E
    clear p1 p2 p3 p4 C4 E
    go_wp2_with fail
    refine (C4'.out 0).mono ?_
    rintro e w4 ⟨rfl, q4⟩
    have B4 : Hid (Below w.heap.size w w4) := B3.out.trans (q4.mono B3.out.size)
    clear q4
    go_wp2
    go_ret
    exact ⟨ret_bool (by rw [E'.out]; cases z <;> rfl), B4.out⟩
  · have hd : decide ((n : Int) ≤ 60) = false := decide_eq_false hn
    have e := HN.out (by rw [hd]; rfl)
    subst e
    go_enter Tryz.func21, Tryz.ntmps21
    go_wp2
    go_ret
    exact ⟨rfl, Below.refl _ _⟩
theorem implHeapOkX (l : List Du) (a : Option Addr) (cap : Nat) (w : World) (hT : l.length ≤ 1048576) (_ : l.length ≤ cap) (_ : a = none → cap = 0) (h : Hid (DusAt w a l)) :
    Calls Tryz.prog 21 #[.slice a l.length cap] w fun e w' => e = .returned (.bool (hok l)) ∧ Below w.heap.size w w' := implHeapOk l a cap w hT h
end Go.Proofs.YtkocbfikcjgigaaGreat

/-
  The walks of slices.Grow (at nothing) and slices.Concat on dues, and of the program's allIn. By the verifier.
-/
namespace Go.Proofs.YtkocbfikcjgigaaGreat
open Go.RowKit Go.Shelf

set_option maxHeartbeats 1600000 in
theorem implGrow (n : Nat) (w : World) (hn : n ≤ 1048576) :
    Calls Tryz.prog 77 #[.slice none 0 0, .int .i64 (n : Int)] w fun e w' => ∃ v, e = .returned v ∧ DuRow w.heap.size w' v [] ∧ Below w.heap.size w w' := by
  obtain ⟨i0, hi, hz0, hz1, hz2⟩ := info_parts duInfo
  by_cases h0 : n = 0
  · subst h0
    go_enter Tryz.func77, Tryz.ntmps77
    go_wp2
    go_ret
    exact ⟨_, rfl, World.ownsRow_nil _ _ _ 2, Below.refl _ _⟩
  · have hp : 0 < n := by omega
    have happ := Lib.run_append_nil_zeros (P := Tryz.prog) w 24 3 24 33 i0 _ .i64 .i64 Tryz.underlying24 Tryz.underlying3 hi hz0 n hp (by rw [hz1]; omega) (by omega) (by rw [hz2]; omega)
    have hc1 := grownCap_ge w n 0 33
    have hc2 := grownCap_le_maxLen w n 0 33 (by unfold maxLen; omega)
    generalize hcap : grownCap w n 0 33 = cap at happ hc1 hc2
    generalize hZ : (Builtin.zeroCells (Value.agg #[.int .i64 0, .int .i64 0]).cells n ++ Builtin.zeroCells (Value.agg #[.int .i64 0, .int .i64 0]).cells (cap - n)) = Z at happ
    have hZs : Z.size = cap * 2 := by rw [← hZ]; simp [size_zeroCells, Value.cells]; omega
    have R : Hid (DuRow w.heap.size (w.drew.alloc (.cells Z 33)) (.slice (some ⟨w.heap.size, 0, none⟩) 0 cap) [] ∧ Below w.heap.size w (w.drew.alloc (.cells Z 33))) :=
      ⟨⟨rfl, .inr ⟨w.heap.size, cap, Z, rfl, Nat.le_refl _, heap_alloc_new w.drew _, Nat.zero_le _, hc2, hZs, rfl⟩⟩, (Below.refl _ _).drew.alloc (Nat.le_refl _) _⟩
    have hp' : (0 : Int) < (n : Int) := by omega
    have hp2 : ¬ (n : Int) < 0 := by omega
    have hw : IntKind.i64.wrap (n : Int) = n := by rw [IntKind.wrap_i64]; omega
    clear hcap hZ hZs hi hz0 hz1 hz2
    go_enter Tryz.func77, Tryz.ntmps77
    go_wp2_with (at_builtin; refine Lib.wpList_append_run _ rfl _ _ _ _ rfl _ _ rfl rfl _ _ happ ?_)
    go_ret
    exact ⟨_, rfl, R.out⟩

theorem dzFlat_next {ls : List (List Du)} {k : Nat} (h : k < ls.length) : (ls.take (k + 1)).flatten = (ls.take k).flatten ++ dzAt ls k := by
  rw [List.take_succ_eq_append_getElem h, List.flatten_append, dzAt_lt h]
  simp
theorem dzFlat_len (ls : List (List Du)) (k : Nat) : (ls.take k).flatten.length = dzSum ls k := by
  unfold dzSum
  rw [List.length_flatten]
set_option maxHeartbeats 3200000 in
set_option maxRecDepth 100000 in
theorem implConcat (ls : List (List Du)) (a : Option Addr) (c : Nat) (w : World) (hT : ls.length ≤ 1048576) (hS : dzSum ls ls.length ≤ 1048576) (h : Hid (DzAt w a ls)) :
    Calls Tryz.prog 66 #[.slice a ls.length c] w fun e w' => ∃ v, e = .returned v ∧ DuRow w.heap.size w' v ls.flatten ∧ Below w.heap.size w w' := by
  have G := fun (n : Nat) (hn : n ≤ 1048576) => implGrow n w hn
  have G' : Hid _ := G
  clear G
  obtain ⟨len, hlen⟩ : ∃ n, ls.length = n := ⟨_, rfl⟩
  rw [hlen] at hT hS ⊢
  have Hlen : Hid (ls.length = len) := hlen
  clear hlen
  go_enter Tryz.func66, Tryz.ntmps66
  go_wp2
  go_loop [3, 11] (fun s i => ∃ (k : Nat) (q : Nat), k ≤ len ∧ i = .int .i64 k ∧ s = .int .i64 (q : Int) ∧ q ≤ 1048576 ∧ Hid (q = dzSum ls k)) (fun _ i => len - (intOf i).toNat)
  case atStart => exact ⟨0, 0, Nat.zero_le _, rfl, rfl, by omega, by show 0 = dzSum ls 0; rw [dzSum_zero]⟩
  case round =>
    obtain ⟨k, q, hk, rfl, rfl, q1, Hq⟩ := hrel
    by_cases hlt : k < len
    · have hkl : k < ls.length := by rw [Hlen.out]; exact hlt
      obtain ⟨b, off, ak, ck, ha, hb, hc, -, -⟩ := h.out k hkl
      subst ha
      have hs := dzSum_succ hkl
      have hm := dzSum_mono (ls := ls) (i := k + 1) (j := len) (by omega) (by rw [Hlen.out]; exact Nat.le_refl _)
      have q2 : q + (dzAt ls k).length ≤ 1048576 := by have := Hq.out; omega
      have Hs : Hid (dzSum ls (k + 1) = dzSum ls k + (dzAt ls k).length) := hs
      generalize (dzAt ls k).length = n at hc q2 Hs
      clear hs hm
      have q3 : ¬ ((q : Int) + (n : Int) < 0) := by omega
      have q4 : IntKind.i64.wrap ((q : Int) + (n : Int)) = (q : Int) + (n : Int) := by rw [IntKind.wrap_i64]; omega
      go_wp2
      go_round
      case rel =>
        refine ⟨k + 1, q + n, by omega, by go_num, by go_num, by omega, ?_⟩
        show q + n = dzSum ls (k + 1)
        rw [Hs.out, Hq.out]
      case measure => simp [intOf]; omega
    · obtain rfl : k = len := by omega
      go_wp2_with fail
      refine (G'.out q q1).mono ?_
      rintro e w1 ⟨v, rfl, p1, p2⟩
      have X : Hid (DuRow w.heap.size w1 v (ls.take 0).flatten ∧ Below w.heap.size w w1) := ⟨p1, p2⟩
      clear p1 p2 G' Hq
      go_wp2_with fail
      go_loopw [6, 27] (fun s i wr => ∃ (m : Nat) (v : Value), m ≤ k ∧ s = v ∧ i = .int .i64 m ∧ Hid (DuRow w.heap.size wr v (ls.take m).flatten ∧ Below w.heap.size w wr)) (fun _ i _ => k - (intOf i).toNat)
      case atStart => exact ⟨0, _, Nat.zero_le _, rfl, rfl, X.out⟩
      case round =>
        obtain ⟨m, v2, hm, rfl, rfl, HK⟩ := hrel
        clear X
        obtain ⟨wo, rfl⟩ : ∃ wo, wo = wr := ⟨_, rfl⟩
        by_cases hlm : m < k
        · have hml : m < ls.length := by rw [Hlen.out]; exact hlm
          have hlm' : (m : Int) < (k : Int) := by omega
          have hz := h.out.below HK.out.2
          obtain ⟨b, off, ak, ck, ha, hb, hc, hn0, hr⟩ := hz m hml
          subst ha
          have Hn : Hid ((ls.take (m + 1)).flatten = (ls.take m).flatten ++ dzAt ls m) := dzFlat_next hml
          have hlen2 : (ls.take m).flatten.length + (dzAt ls m).length ≤ 2097152 := by
            have e1 := dzFlat_len ls m
            have e2 := dzSum_succ hml
            have e3 := dzSum_mono (ls := ls) (i := m + 1) (j := k) (by omega) (by rw [Hlen.out]; exact Nat.le_refl _)
            omega
          obtain ⟨L, hL⟩ : ∃ L, (ls.take m).flatten = L := ⟨_, rfl⟩
          obtain ⟨M, hM⟩ : ∃ M, dzAt ls m = M := ⟨_, rfl⟩
          rw [hL, hM] at Hn hlen2
          rw [hL] at HK
          rw [hM] at hc hn0 hr
          obtain ⟨n, hn⟩ : ∃ n, M.length = n := ⟨_, rfl⟩
          rw [hn] at hc
          have Y : Hid (DusAt wo ak M ∧ (ak = none → ck = 0) ∧ w.heap.size ≤ wo.heap.size ∧ M.length = n ∧ L.length + M.length ≤ 2097152) := ⟨hn0, hr.2, HK.out.2.size, hn, hlen2⟩
          clear hL hM hn0 hr hlen2 hz hn
          go_wp2_with (at_builtin; refine du_app rfl (.tmp 31) (.tmp 32) rfl w.heap.size _ L ak n ck M Y.out.2.2.2.1 rfl rfl HK.out.1 Y.out.1 Y.out.2.1 Y.out.2.2.2.2 Y.out.2.2.1 ?_; intro v' w5 q1 q2 q3 q4; have R : Hid (DuRow w.heap.size w5 v' (ls.take (m + 1)).flatten ∧ Below w.heap.size w w5) := ⟨by rw [Hn.out]; exact q1, HK.out.2.trans q2⟩; clear q1 q2 q3 q4)
          go_roundw
          case rel => exact ⟨m + 1, _, by omega, rfl, by go_num, R.out⟩
          case measure => simp [intOf]; omega
        · obtain rfl : m = k := by omega
          have e : ls.take m = ls := List.take_of_length_le (by rw [Hlen.out]; exact Nat.le_refl _)
          rw [e] at HK
          clear e
          go_wp2
          go_ret
          exact ⟨_, rfl, HK.out⟩

set_option maxHeartbeats 3200000 in
theorem implAllIn (r : Wh) (v : Value) (w : World) (hB : r.big ≤ 1048576) (h : Hid (WhAt w v r)) :
    Calls Tryz.prog 37 #[v] w fun e w' => ∃ g l', e = .returned (.slice (some ⟨g, 0, none⟩) l'.length l'.length) ∧ l'.Perm r.slots.flatten ∧ Sorted l' ∧ DuRow w.heap.size w' (.slice (some ⟨g, 0, none⟩) l'.length l'.length) l' ∧ Below w.heap.size w w' := by
  obtain ⟨a, c, rfl, k1⟩ := h.out
  clear h
  obtain ⟨hT, hS, -⟩ := Wh.small hB
  have b0 : Below w.heap.size w (w.alloc (.cells #[.int .i64 r.step, .slice a r.slots.length c] 29)) := (Below.refl _ _).alloc (Nat.le_refl _) _
  have C := fun (_ : Nat) => implConcat r.slots a c _ hT hS (k1.below b0)
  have O := fun (w : World) (a : Option Addr) (c : Nat) (hh : Hid (DusAt w a r.slots.flatten)) => implOrderly a c r.slots.flatten w (by rw [← List.take_length (l := r.slots), dzFlat_len]; exact hS) hh
  have B0 : Hid (Below w.heap.size w (w.alloc (.cells #[.int .i64 r.step, .slice a r.slots.length c] 29))) := b0
  obtain ⟨f, ls⟩ := r
  simp only [Wh.val] at C O B0 ⊢
  obtain ⟨n, hn⟩ : ∃ n, ls.length = n := ⟨_, rfl⟩
  rw [hn] at C B0 ⊢
  obtain ⟨L, hL⟩ : ∃ L, ls.flatten = L := ⟨_, rfl⟩
  rw [hL] at C O ⊢
  obtain ⟨m, hm⟩ : ∃ m, L.length = m := ⟨_, rfl⟩
  rw [hm] at O
  have Hm : Hid (L.length = m) := hm
  have C' : Hid _ := C
  have O' : Hid _ := O
  clear C O k1 hT hS b0 hB hn hL hm
  go_enter Tryz.func37, Tryz.ntmps37
  go_wp2_with fail
  refine (C'.out 0).mono ?_
  rintro e w1 ⟨v, rfl, p1, p2⟩
  obtain ⟨a1, c1, ev⟩ := p1.shape
  rw [Hm.out] at ev
  subst ev
  have hd := p1
  rw [← Hm.out] at hd
  have X : Hid (Below w.heap.size w w1 ∧ DusAt w1 a1 L) := ⟨B0.out.trans (p2.mono B0.out.size), hd.at⟩
  clear p1 p2 hd C' B0
  go_wp2_with fail
  refine (O'.out _ _ _ X.out.2).mono ?_
  rintro e w2 ⟨g, l', rfl, p1, p2, p3, p4⟩
  have Y : Hid (l'.Perm L ∧ Sorted l' ∧ DuRow w.heap.size w2 (.slice (some ⟨g, 0, none⟩) l'.length l'.length) l' ∧ Below w.heap.size w w2) := ⟨p1, p2, p3.mono X.out.1.size, X.out.1.trans (p4.mono X.out.1.size)⟩
  clear p1 p2 p3 p4 X O'
  go_wp2
  go_ret
  exact ⟨g, l', rfl, Y.out⟩
end Go.Proofs.YtkocbfikcjgigaaGreat
