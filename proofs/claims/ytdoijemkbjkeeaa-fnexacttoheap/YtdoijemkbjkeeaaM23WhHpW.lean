import Derived.Test.YtdoijemkbjkeeaaWhHp
import Derived.Test.YtdoijemkbjkeeaaWhOkW
import Derived.Test.YtdoijemkbjkeeaaM20DzCat
import Derived.Test.YtdoijemkbjkeeaaM22HpPut
/-
  The walk of the program's ToHeap. By the verifier.
-/
namespace Go.Proofs.Ytdoijemkbjkeeaa
open Go.RowKit Go.Shelf

theorem drain_sorted (n : Nat) : ∀ (r : Wh) (l o : List Du), r.ok = true → r.cnt = n → l.Perm r.slots.flatten → Sorted l → drain n r o = l.foldl hput o := by
  induction n with
  | zero =>
    intro r l o hk hn hp hs
    have e : r.slots.flatten = [] := List.eq_nil_of_length_eq_zero hn
    rw [e] at hp
    rw [hp.eq_nil]
    rfl
  | succ n ih =>
    intro r l o hk hn hp hs
    cases hb : r.takeB with
    | false =>
      have := Wh.take_none hk hb
      unfold Wh.cnt at hn
      rw [this] at hn
      simp at hn
    | true =>
      have ht := Wh.take_is hb
      have hc := Wh.cnt_take hb
      rw [drain, if_pos hb]
      have hl0 : 0 < l.length := by rw [hp.length_eq, ← ht.2.1.length_eq]; simp
      have hmem : duAt l 0 ∈ l := by rw [duAt_lt hl0]; exact List.getElem_mem hl0
      have hmin : ∀ x ∈ l, ¬ x.lt (duAt l 0) := fun x hx => by
        obtain ⟨i, hi, e⟩ := List.mem_iff_getElem.1 hx
        by_cases h0 : i = 0
        · subst h0
          rw [← e, duAt_lt hl0]
          exact Du.lt_irrefl _
        · have := hs 0 i (by omega) hi
          rw [duAt_lt hi, e] at this
          exact this
      have e : duAt l 0 = r.takeD := first_same hp hmem (ht.2.1.subset (List.mem_cons_self ..)) hmin ht.2.2.1
      match l, hl0, hp, hs, e with
      | x :: t, _, hp, hs, e =>
        have e : x = r.takeD := e
        subst e
        show _ = t.foldl hput (hput o _)
        refine ih r.take t _ ht.1 (by omega) ((hp.trans ht.2.1.symm).cons_inv) ?_
        intro i j hij hj
        exact hs (i + 1) (j + 1) (by omega) (by simpa using hj)
theorem toH_sorted {r : Wh} {l : List Du} (h : r.ok = true) (hp : l.Perm r.slots.flatten) (hs : Sorted l) : toH r = l.foldl hput [] := by
  unfold toH
  rw [if_pos h]
  exact drain_sorted _ r l [] h rfl hp hs
theorem foldl_next {l : List Du} {k : Nat} (h : k < l.length) : (l.take (k + 1)).foldl hput [] = hput ((l.take k).foldl hput []) (duAt l k) := by
  rw [List.take_succ_eq_append_getElem h, List.foldl_append, duAt_lt h]
  rfl
theorem foldl_len {l : List Du} (k : Nat) (h : k ≤ l.length) : ((l.take k).foldl hput []).length = k := by
  induction k with
  | zero => simp
  | succ k ih =>
    rw [foldl_next (by omega), (hput_perm _ _).length_eq, List.length_cons, ih (by omega)]
/-- What lies in ToHeap's loop. -/
structure HtL (S B gl : Nat) (o l : List Du) (w0 w : World) : Prop where
  hp : ∃ g cap, HpV S B g cap o w ∧ gl ≠ g
  row : DuRow S w (.slice (some ⟨gl, 0, none⟩) l.length l.length) l
  far : gl ≠ B
  bel : Below S w0 w
  up : S ≤ w.heap.size
theorem HtL.below {S B gl : Nat} {o l : List Du} {w0 w w' : World} (h : HtL S B gl o l w0 w) (q : Below w.heap.size w w') : HtL S B gl o l w0 w' := by
  obtain ⟨⟨g, c, h1, h2⟩, h3, h4, h5, h6⟩ := h
  exact ⟨⟨g, c, h1.below q, h2⟩, h3.below (fun k hk => (h3.lt k hk).2) q, h4, h5.trans (q.mono h6), Nat.le_trans h6 q.size⟩
theorem HtL.put {S B gl g : Nat} {o o' l : List Du} {w0 w w' : World} (h : HtL S B gl o l w0 w) (hg : gl ≠ g) (q : HpPut S B g o' w w') : HtL S B gl o' l w0 w' := by
  obtain ⟨-, h3, h4, h5, h6⟩ := h
  obtain ⟨⟨g', c', k1, k2⟩, k3, k4⟩ := q
  have hlt := (h3.lt gl rfl).2
  refine ⟨⟨g', c', k1, ?_⟩, h3.carry fun k hk _ => ?_, h4, h5.trans k3, Nat.le_trans h6 k3.size⟩
  · rcases k2 with rfl | k2
    · exact hg
    · omega
  · have e : k = gl := by cases hk; rfl
    subst e
    exact k4 k hg h4 hlt
end Go.Proofs.Ytdoijemkbjkeeaa

/-
  The walk of the program's ToHeap, the whole. By the verifier.
-/
namespace Go.Proofs.Ytdoijemkbjkeeaa
open Go.RowKit Go.Shelf

set_option maxHeartbeats 3200000 in
set_option maxRecDepth 100000 in
theorem implToHeap (r : Wh) (v : Value) (w : World) (hB : r.big ≤ 1048576) (h : Hid (WhAt w v r)) :
    Calls Try.prog 21 #[v] w fun e w' => (∃ v', e = .returned (.tuple #[v', .bool (r.ok)]) ∧ DuRow w.heap.size w' v' (toH r)) ∧ Below w.heap.size w w' := by
  have A1 := fun (w : World) (hh : Hid (WhAt w v r)) => implWheelOk r v w hB hh
  have A2 := fun (w : World) (hh : Hid (WhAt w v r)) => implAllIn r v w hB hh
  have HI : Hid (∀ w', Below w.heap.size w w' → WhAt w' v r) := fun w' g => h.out.below g
  have P1 : Hid (r.ok = false → toH r = []) := fun e => by unfold toH; rw [e]; rfl
  have P2 : Hid (r.ok = true → ∀ l : List Du, l.Perm r.slots.flatten → Sorted l → l.length ≤ 60 ∧ toH r = l.foldl hput []) := fun e l hp hs => ⟨by rw [hp.length_eq]; exact (Wh.ok_is.1 e).2.2.1, toH_sorted e hp hs⟩
  obtain ⟨a, c, ev, -⟩ := h.out
  obtain ⟨f, ls⟩ := r
  simp only [Wh.val] at ev
  subst ev
  generalize (⟨f, ls⟩ : Wh).ok = ok at A1 P1 P2 ⊢
  generalize toH ⟨f, ls⟩ = rl at P1 P2 ⊢
  generalize ls.length = n at A1 A2 HI ⊢
  simp only [] at A2 P2
  have A1' : Hid _ := A1
  have A2' : Hid _ := A2
  clear A1 A2 h hB
  obtain ⟨W, hW⟩ : ∃ W, W = w.alloc (.cells #[.int .i64 f, .slice a n c] 30) := ⟨_, rfl⟩
  have X : Hid (Boxed W w.heap.size #[.int .i64 f, .slice a n c] 30 ∧ Below w.heap.size w W) := by rw [hW]; exact ⟨Boxed.new _ _ _, (Below.refl _ _).alloc (Nat.le_refl _) _⟩
  have HWe : Hid (W = _) := hW
  clear hW
  go_enter Try.func21, Try.ntmps21
  go_upto_region 1 with fail
  rw [← HWe.out]
  clear HWe
  have d0 : W.cell? ⟨w.heap.size, 0, none⟩ = some (.int .i64 f) := X.out.1.cell 0 rfl
  have d1 : W.cell? ⟨w.heap.size, 1, none⟩ = some (.slice a n c) := X.out.1.cell 1 rfl
  go_wp2_with fail
  refine (A1'.out _ (HI.out _ X.out.2)).mono ?_
  rintro e w1 ⟨rfl, q⟩
  have X1 : Hid (Boxed w1 w.heap.size #[.int .i64 f, .slice a n c] 30 ∧ Below w.heap.size w w1) := ⟨X.out.1.below X.out.1.under q, X.out.2.trans (q.mono X.out.2.size)⟩
  clear q X A1' d0 d1
  cases ok
  · have e := P1.out (by first | exact trivial | exact rfl)
    subst e
    go_wp2
    go_ret2
    exact ⟨⟨_, rfl, du_built w1 _ X1.out.2.size⟩, X1.out.2.alloc X1.out.2.size _⟩
  have P2' := P2.out (by first | exact trivial | exact rfl)
  have Q2 : Hid _ := P2'
  clear P2 P2' P1
  have X2 : Hid (HpV w.heap.size (w1.heap.size + 1) w1.heap.size 0 [] ((w1.alloc (.cells #[] 34)).alloc (.cells #[.slice (some ⟨w1.heap.size, 0, none⟩) 0 0] 76)) ∧ Boxed ((w1.alloc (.cells #[] 34)).alloc (.cells #[.slice (some ⟨w1.heap.size, 0, none⟩) 0 0] 76)) w.heap.size #[.int .i64 f, .slice a n c] 30 ∧ Below w.heap.size w ((w1.alloc (.cells #[] 34)).alloc (.cells #[.slice (some ⟨w1.heap.size, 0, none⟩) 0 0] 76))) := by
    have hs := X1.out.2.size
    refine ⟨⟨?_, (du_built w1 _ hs).alloc _, by omega⟩, (X1.out.1.more _).more _, (X1.out.2.alloc hs _).alloc (by simp; omega) _⟩
    have := Boxed.new (w1.alloc (.cells #[] 34)) #[.slice (some ⟨w1.heap.size, 0, none⟩) 0 0] 76
    simpa using this
  go_upto_region 4 with fail
  generalize (w1.alloc (.cells #[] 34)).alloc (.cells #[.slice (some ⟨w1.heap.size, 0, none⟩) 0 0] 76) = w2 at X2 ⊢
  generalize w1.heap.size = g0 at X2 ⊢
  clear X1
  obtain ⟨B, hBe⟩ : ∃ B, g0 + 1 = B := ⟨_, rfl⟩
  rw [hBe] at X2 ⊢
  clear hBe
  have d0 : w2.cell? ⟨w.heap.size, 0, none⟩ = some (.int .i64 f) := X2.out.2.1.cell 0 rfl
  have d1 : w2.cell? ⟨w.heap.size, 1, none⟩ = some (.slice a n c) := X2.out.2.1.cell 1 rfl
  go_wp2_with fail
  refine (A2'.out _ (HI.out _ X2.out.2.2)).mono ?_
  rintro e w3 ⟨gl, l, rfl, p1, p2, p3, p4⟩
  have L0 : Hid (HtL w.heap.size B gl ((l.take 0).foldl hput []) l w w3) := by
    have h1 := X2.out.1.lt
    have h2 := X2.out.1.box.under
    have h3 := (p3.lt gl rfl).1
    have h4 := X2.out.2.2.size
    exact ⟨⟨g0, 0, X2.out.1.below p4, by omega⟩, p3.mono h4, by omega, X2.out.2.2.trans (p4.mono h4), Nat.le_trans h4 p4.size⟩
  obtain ⟨hn60, hfin⟩ := Q2.out l p1 p2
  have HF : Hid (rl = l.foldl hput []) := hfin
  clear hfin Q2 d0 d1 X2 p1 p2 p3 p4 A2' HI
  obtain ⟨m, hm⟩ : ∃ m, l.length = m := ⟨_, rfl⟩
  have Hm : Hid (l.length = m) := hm
  rw [hm] at hn60 ⊢
  obtain ⟨al, hal⟩ : ∃ al, al = some (⟨gl, 0, none⟩ : Addr) := ⟨_, rfl⟩
  rw [← hal]
  have Hal : Hid (al = some (⟨gl, 0, none⟩ : Addr)) := hal
  clear hm hal
  go_wp2_with fail
  go_loopw [15] (fun s wr => ∃ k : Nat, k ≤ m ∧ s = .int .i64 k ∧ Hid (HtL w.heap.size B gl ((l.take k).foldl hput []) l w wr)) (fun s _ => m - (intOf s).toNat)
  case atStart => exact ⟨0, Nat.zero_le _, rfl, L0.out⟩
  case round =>
    obtain ⟨k, hk, rfl, HK⟩ := hrel
    clear L0
    obtain ⟨wo, rfl⟩ : ∃ wo, wo = wr := ⟨_, rfl⟩
    obtain ⟨g, cap, hv, hg⟩ := HK.out.hp
    have HV : Hid (HpV w.heap.size B g cap ((l.take k).foldl hput []) wo ∧ gl ≠ g) := ⟨hv, hg⟩
    clear hv hg
    have hlk : Hid (((l.take k).foldl hput []).length = k) := foldl_len k (by rw [Hm.out]; exact hk)
    by_cases hlt : k < m
    case neg =>
      obtain rfl : k = m := by omega
      have e : l.take k = l := List.take_of_length_le (by rw [Hm.out]; exact Nat.le_refl _)
      have hc := HV.out.1.cell
      rw [hlk.out] at hc
      have F : Hid (DuRow w.heap.size wo (.slice (some ⟨g, 0, none⟩) k cap) rl ∧ Below w.heap.size w wo) := by
        have h1 := HV.out.1.row
        rw [hlk.out, e, ← HF.out] at h1
        exact ⟨h1, HK.out.bel⟩
      clear e HV HK
      go_wp2
      go_ret2
      exact ⟨⟨_, rfl, F.out.1⟩, F.out.2⟩
    have hkl : k < l.length := by rw [Hm.out]; exact hlt
    have hlt' : (k : Int) < (m : Int) := by omega
    have hat : DusAt wo al l := by rw [Hal.out]; exact HK.out.row.at
    obtain ⟨b1, o1, ha1, -, -⟩ := hat k hkl
    subst ha1
    obtain ⟨c0, c1⟩ := hat.cells hkl
    clear hat
    have Nx : Hid ((l.take (k + 1)).foldl hput [] = hput ((l.take k).foldl hput []) (duAt l k)) := foldl_next hkl
    have A3 := fun (w' : World) (hh : HpV w.heap.size B g cap ((l.take k).foldl hput []) w') => implPutM w.heap.size B g cap ((l.take k).foldl hput []) (duAt l k) w' (by rw [hlk.out]; omega) hh
    rw [← Nx.out] at A3
    obtain ⟨d, hd⟩ : ∃ d, duAt l k = d := ⟨_, rfl⟩
    rw [hd] at c0 c1 A3
    unfold Du.val at A3
    have A3' : Hid _ := A3
    have b0 : Below wo.heap.size wo (wo.alloc (.cells #[.int .i64 d.time, .int .i64 d.id] 34)) := (Below.refl _ _).alloc (Nat.le_refl _) _
    have Y : Hid (HtL w.heap.size B gl ((l.take k).foldl hput []) l w (wo.alloc (.cells #[.int .i64 d.time, .int .i64 d.id] 34)) ∧ HpV w.heap.size B g cap ((l.take k).foldl hput []) (wo.alloc (.cells #[.int .i64 d.time, .int .i64 d.id] 34)) ∧ gl ≠ g) := ⟨HK.out.below b0, HV.out.1.below b0, HV.out.2⟩
    clear A3 hd b0 HK HV hlk Nx
    go_wp2_with fail
    refine (A3'.out _ Y.out.2.1).mono ?_
    rintro e w4 ⟨rfl, q⟩
    have Z : Hid (HtL w.heap.size B gl ((l.take (k + 1)).foldl hput []) l w w4) := Y.out.1.put Y.out.2.2 q
    clear q Y A3' c0 c1
    go_wp2
    go_roundw
    case rel => exact ⟨k + 1, by omega, by go_num, Z.out⟩
    case measure => simp [intOf]; omega
end Go.Proofs.Ytdoijemkbjkeeaa
