/-
  The walk of the model's copy of a deal. By the verifier.
-/
import Derived.Test.YtojmghnbekneiaaDlSpec
import Derived.Test.YtojmghnbekneiaaHsGrow
import Derived.Test.YtojmghnbekneiaaStepRow
import Derived.Test.YtojmghnbekneiaaRegList
import Derived.Laws.ResultCell
import Derived.Laws.CopyOwn
namespace Go.Proofs.Ytojmghnbekneiaa
open Go.RowKit

/-- What lies while a deal is copied: so many hosts, the deal that is made, the answer's variable, what came in. -/
structure CpD (w : World) (f : Int) (a : Option Addr) (n c : Nat) (ls : List Hs) (k : Nat) (v : Value) (rs : List Hsr) (wr : World) : Prop where
  g : HsG (w.heap.size + 3) v rs (ls.take k) wr
  out : Boxed wr (w.heap.size + 1 + 1) #[.int .i64 f, v] 26
  res : Boxed wr (w.heap.size + 1) #[.int .i64 0, .slice none 0 0] 26
  box : Boxed wr w.heap.size #[.int .i64 f, .slice a n c] 26
  bel : Below w.heap.size w wr
/-- One host more. -/
theorem CpD.add {w : World} {f : Int} {a : Option Addr} {n c : Nat} {ls : List Hs} {k : Nat} {v v' u : Value} {rs : List Hsr} {wr wd wx : World} (h : CpD w f a n c ls k v rs wr) (hk : k < ls.length) (g1 : Below wr.heap.size wr wd) (hu : IRow wr.heap.size wd u (hsAt ls k).flows)
    (ho : wx.ownsRow (w.heap.size + 3) 35 2 v' (k + 1) (hscells (rs ++ [⟨(hsAt ls k).turn, u⟩]))) (g2 : ∀ y, v.ownBlock ≠ some y → y < wd.heap.size → wx.heap[y]? = wd.heap[y]?) (g3 : Below (w.heap.size + 3) wd wx) :
    CpD w f a n c ls (k + 1) v' (rs ++ [⟨(hsAt ls k).turn, u⟩]) (wx.setCell ⟨w.heap.size + 1 + 1, 1, none⟩ v') := by
  have hs := h.out.under
  have hlk : (ls.take k).length = k := by simp; omega
  have e : ls.take (k + 1) = ls.take k ++ [hsAt ls k] := by rw [List.take_succ_eq_append_getElem hk, hsAt_lt hk]
  have hg : HsG (w.heap.size + 3) v' (rs ++ [⟨(hsAt ls k).turn, u⟩]) (ls.take (k + 1)) wx := by
    rw [e]
    exact h.g.add (by omega) g1 hu (by rw [hlk]; exact ho) g2
  have b1 : ∀ y, y < w.heap.size + 3 → wx.heap[y]? = wr.heap[y]? := fun y hy => (g3.block y hy).trans (g1.block y (by omega))
  have oth : ∀ y, y ≠ w.heap.size + 1 + 1 → (wx.setCell ⟨w.heap.size + 1 + 1, 1, none⟩ v').heap[y]? = wx.heap[y]? := fun y hy => Below.heap_setCell _ _ _ _ hy
  have o1 : Boxed wx (w.heap.size + 1 + 1) #[.int .i64 f, v] 26 := (b1 _ (by omega)).trans h.out
  refine ⟨hg.other fun y hy _ => oth y (by omega), o1.put 1 v', ?_, ?_, ?_⟩
  · exact (oth _ (by omega)).trans ((b1 _ (by omega)).trans h.res)
  · exact (oth _ (by omega)).trans ((b1 _ (by omega)).trans h.box)
  · exact (h.bel.trans ((g1.mono h.bel.size).trans (g3.mono (by omega)))).setCell (by show w.heap.size ≤ w.heap.size + 1 + 1; omega) _

set_option maxHeartbeats 6400000 in
set_option maxRecDepth 100000 in
theorem specCopyD (d : Dl) (a : Option Addr) (c : Nat) (w : World) (hB : d.big ≤ 1048576) (h : Hid (HssAt w a d.hosts)) :
    Calls Try.prog 25 #[d.val a c] w fun e w' => (∃ v rs, e = .returned (.agg #[.int .i64 d.turn, v]) ∧ HsG (w.heap.size + 3) v rs d.hosts w') ∧ Below w.heap.size w w' := by
  obtain ⟨hT, -, hin⟩ := Dl.small hB
  obtain ⟨f, ls⟩ := d
  simp only [Dl.val] at h hT hin ⊢
  clear hB
  have Hin : Hid (∀ k, k < ls.length → (hsAt ls k).flows.length ≤ 1048576) := hin
  obtain ⟨n, hn⟩ : ∃ n, ls.length = n := ⟨_, rfl⟩
  rw [hn] at hT ⊢
  have Hn : Hid (ls.length = n) := hn
  clear hn hin
  obtain ⟨W, hW⟩ : ∃ W, W = ((w.alloc (.cells #[.int .i64 f, .slice a n c] 26)).alloc (.cells #[.int .i64 0, .slice none 0 0] 26)).alloc (.cells #[.int .i64 f, .slice none 0 0] 26) := ⟨_, rfl⟩
  have X : Hid (CpD w f a n c ls 0 (.slice none 0 0) [] W) := by
    rw [hW]
    refine ⟨by rw [List.take_zero]; exact HsG.nil _ _, ?_, ?_, ((Boxed.new w _ _).more _).more _, (((Below.refl _ _).alloc (Nat.le_refl _) _).alloc (by simp) _).alloc (by simp; omega) _⟩
    · have := Boxed.new ((w.alloc (.cells #[.int .i64 f, .slice a n c] 26)).alloc (.cells #[.int .i64 0, .slice none 0 0] 26)) #[.int .i64 f, .slice none 0 0] 26
      simpa using this
    · have := (Boxed.new (w.alloc (.cells #[.int .i64 f, .slice a n c] 26)) #[.int .i64 0, .slice none 0 0] 26).more (.cells #[.int .i64 f, .slice none 0 0] 26)
      simpa using this
  have HW : Hid (W = _) := hW
  clear hW
  go_enter Try.func25, Try.ntmps25
  go_wp2
  rw [← HW.out]
  go_loopw [4] (fun i wr => ∃ k : Nat, k ≤ n ∧ i = .int .i64 k ∧ Hid (∃ v rs, CpD w f a n c ls k v rs wr)) (fun i _ => n - (intOf i).toNat)
  case atStart => exact ⟨0, Nat.zero_le _, rfl, _, _, X.out⟩
  case round =>
    obtain ⟨k, hk, rfl, HE⟩ := hrel
    obtain ⟨v, rs, H1⟩ : ∃ v rs, Hid (CpD w f a n c ls k v rs wr) := HE.out
    clear X HE
    have c1 : wr.cell? ⟨w.heap.size, 1, none⟩ = some (.slice a n c) := H1.out.box.cell 1 rfl
    by_cases hlt : k < n
    · have hkl : k < ls.length := by rw [Hn.out]; exact hlt
      obtain ⟨b, off, ak, ck, ha, hb, ⟨e0, e1⟩, hr, hcap, hnil⟩ := (h.out.below H1.out.bel) k hkl
      subst ha
      have hm := Hin.out k hkl
      have d1 : wr.cell? ⟨w.heap.size + 1 + 1, 1, none⟩ = some v := H1.out.out.cell 1 rfl
      have z1 := H1.out.out.ice 1
      have Hr : Hid (IntsAt wr ak (hsAt ls k).flows) := hr
      have Add : Hid (∀ u v' wd wx, Below wr.heap.size wr wd → IRow wr.heap.size wd u (hsAt ls k).flows → wx.ownsRow (w.heap.size + 3) 35 2 v' (k + 1) (hscells (rs ++ [⟨(hsAt ls k).turn, u⟩])) → (∀ y, v.ownBlock ≠ some y → y < wd.heap.size → wx.heap[y]? = wd.heap[y]?) → Below (w.heap.size + 3) wd wx → CpD w f (some ⟨b, off, none⟩) n c ls (k + 1) v' (rs ++ [⟨(hsAt ls k).turn, u⟩]) (wx.setCell ⟨w.heap.size + 1 + 1, 1, none⟩ v')) := fun u v' wd wx q1 q2 q3 q4 q5 => H1.out.add hkl q1 q2 q3 q4 q5
      have Out : Hid (wr.ownsRow (w.heap.size + 3) 35 2 v k (hscells rs) ∧ w.heap.size + 3 ≤ wr.heap.size) := ⟨by have := H1.out.g.outer; rw [List.length_take, Nat.min_eq_left (by omega)] at this; exact this, H1.out.out.under⟩
      generalize hsAt ls k = q at e0 e1 Hr hm Add hr hcap
      obtain ⟨t, l⟩ := q
      simp only at e0 e1 Hr hm Add hr hcap
      obtain ⟨m, hml⟩ : ∃ m, l.length = m := ⟨_, rfl⟩
      rw [hml] at e1 hm hcap
      have Hml : Hid (l.length = m) := hml
      have l2 : w.heap.size + 1 + 1 < wr.heap.size := H1.out.out.under
      have l0 : w.heap.size < wr.heap.size := by omega
      clear hr hml
      go_wp2_with fail
      refine region_lists (G := Unit) (by kernel_rfl) (by kernel_rfl) (by kernel_rfl) (fun i => if i = 8 then 15 else if i = 15 then 16 else if i = 16 then 17 else if i = 17 then 18 else if i = 18 then 20 else 99) (fun (L : Nat → Bool) (_ : Unit) (x : World) => L 18 = false → Below wr.heap.size wr x) (fun i _ x _ x' => (i ≠ 8 → i ≠ 15 → i ≠ 17 → i ≠ 18 → i ≠ 20 → x' = x)) (fun i y x u => ([fun _ _ u => u = (.pointer (some ⟨w.heap.size + 1 + 1, 1, none⟩)), fun _ _ u => u = v, fun _ _ u => u = (.pointer (some ⟨w.heap.size, 1, none⟩)), fun _ _ u => u = (.slice (some ⟨b, off, none⟩) n c), fun _ _ u => u = (.int .i64 (k : Int)), fun _ _ u => u = (.pointer (some ⟨b, off + k * 2, none⟩)), fun _ _ u => u = (.pointer (some ⟨b, off + k * 2, none⟩)), fun _ _ u => u = (.int .i64 t), fun _ x u => ∃ g, u = .slice (some ⟨g, 0, none⟩) 0 0 ∧ IRow wr.heap.size x u [], fun _ _ u => u = (.pointer (some ⟨w.heap.size, 1, none⟩)), fun _ _ u => u = (.slice (some ⟨b, off, none⟩) n c), fun _ _ u => u = (.int .i64 (k : Int)), fun _ _ u => u = (.pointer (some ⟨b, off + k * 2, none⟩)), fun _ _ u => u = (.pointer (some ⟨b, off + k * 2 + 1, none⟩)), fun _ _ u => u = (.slice ak m ck), fun _ x u => ∃ ux uc, u = .slice ux m uc ∧ IRow wr.heap.size x u l, fun _ x u => ∃ ux uc, u = .agg #[.int .i64 t, .slice ux m uc] ∧ IRow wr.heap.size x (.slice ux m uc) l, fun _ x u => ∃ ux uc n1, u = .slice (some ⟨n1, 0, none⟩) 1 1 ∧ Boxed x n1 #[.int .i64 t, .slice ux m uc] 35 ∧ IRow wr.heap.size x (.slice ux m uc) l, fun _ x u => ∃ vx vc rs', u = .slice vx (k + 1) vc ∧ CpD w f (some ⟨b, off, none⟩) n c ls (k + 1) u rs' (x.setCell ⟨w.heap.size + 1 + 1, 1, none⟩ u) ∧ (∃ y, x.cell? ⟨w.heap.size + 1 + 1, 1, none⟩ = some y) ∧ x.frozen? ⟨w.heap.size + 1 + 1, 1, none⟩ = false, fun _ _ u => u = (.pointer (some ⟨w.heap.size + 1 + 1, 1, none⟩)), fun _ x _ => ∃ v' rs', CpD w f (some ⟨b, off, none⟩) n c ls (k + 1) v' rs' x] : List (Unit → World → Value → Prop)).getD i (fun _ _ _ => True) y x u) ?hR () ?h0 ?step ?last
      case hR =>
        intro i j y y' x x' u hi hj hne hu h1 h2 hp hr
        have hi' : i < 21 := hi
        have hj' : j < 21 := hj
        by_cases hpure : i ≠ 8 ∧ i ≠ 15 ∧ i ≠ 17 ∧ i ≠ 18 ∧ i ≠ 20
        · obtain ⟨p1, p2, p3, p4, p5⟩ := hpure
          have e := hr p1 p2 p3 p4 p5
          subst e
          exact hp
        have hcases : j = 0 ∨ j = 1 ∨ j = 2 ∨ j = 3 ∨ j = 4 ∨ j = 5 ∨ j = 6 ∨ j = 7 ∨ j = 8 ∨ j = 9 ∨ j = 10 ∨ j = 11 ∨ j = 12 ∨ j = 13 ∨ j = 14 ∨ j = 15 ∨ j = 16 ∨ j = 17 ∨ j = 18 ∨ j = 19 ∨ j = 20 := by omega
        rcases hcases with rfl | rfl | rfl | rfl | rfl | rfl | rfl | rfl | rfl | rfl | rfl | rfl | rfl | rfl | rfl | rfl | rfl | rfl | rfl | rfl | rfl
        · exact hp
        · exact hp
        · exact hp
        · exact hp
        · exact hp
        · exact hp
        · exact hp
        · exact hp
        · exfalso
          have hic : i = 8 ∨ i = 15 ∨ i = 17 ∨ i = 18 ∨ i = 20 := by omega
          rcases hic with rfl | rfl | rfl | rfl | rfl
          all_goals first | exact absurd rfl hne | exact absurd rfl hu | (exact absurd h1 (by decide +kernel)) | (exact absurd h2 (by decide +kernel))
        · exact hp
        · exact hp
        · exact hp
        · exact hp
        · exact hp
        · exact hp
        · exfalso
          have hic : i = 8 ∨ i = 15 ∨ i = 17 ∨ i = 18 ∨ i = 20 := by omega
          rcases hic with rfl | rfl | rfl | rfl | rfl
          all_goals first | exact absurd rfl hne | exact absurd rfl hu | (exact absurd h1 (by decide +kernel)) | (exact absurd h2 (by decide +kernel))
        · exfalso
          have hic : i = 8 ∨ i = 15 ∨ i = 17 ∨ i = 18 ∨ i = 20 := by omega
          rcases hic with rfl | rfl | rfl | rfl | rfl
          all_goals first | exact absurd rfl hne | exact absurd rfl hu | (exact absurd h1 (by decide +kernel)) | (exact absurd h2 (by decide +kernel))
        · exfalso
          have hic : i = 8 ∨ i = 15 ∨ i = 17 ∨ i = 18 ∨ i = 20 := by omega
          rcases hic with rfl | rfl | rfl | rfl | rfl
          all_goals first | exact absurd rfl hne | exact absurd rfl hu | (exact absurd h1 (by decide +kernel)) | (exact absurd h2 (by decide +kernel))
        · exfalso
          have hic : i = 8 ∨ i = 15 ∨ i = 17 ∨ i = 18 ∨ i = 20 := by omega
          rcases hic with rfl | rfl | rfl | rfl | rfl
          all_goals first | exact absurd rfl hne | exact absurd rfl hu | (exact absurd h1 (by decide +kernel)) | (exact absurd h2 (by decide +kernel))
        · exact hp
        · exfalso
          have hic : i = 8 ∨ i = 15 ∨ i = 17 ∨ i = 18 ∨ i = 20 := by omega
          rcases hic with rfl | rfl | rfl | rfl | rfl
          all_goals first | exact absurd rfl hne | exact absurd rfl hu | (exact absurd h1 (by decide +kernel)) | (exact absurd h2 (by decide +kernel))
      case h0 => exact fun _ => (Below.refl _ _).drew
      case step =>
        intro i o hi ho L a' y x hLi hwt hre hkp hI hp
        have s1 : a'.tmps[1]?.getD undef = (.pointer (some ⟨w.heap.size, 0, none⟩)) := by have h2 : a'.tmps.getD 1 undef = (.pointer (some ⟨w.heap.size, 0, none⟩)) := hkp.slot 1 (by kernel_rfl); simpa using h2
        have s3 : a'.tmps[3]?.getD undef = (.pointer (some ⟨w.heap.size + 1 + 1, 0, none⟩)) := by have h2 : a'.tmps.getD 3 undef = (.pointer (some ⟨w.heap.size + 1 + 1, 0, none⟩)) := hkp.slot 3 (by kernel_rfl); simpa using h2
        have s4 : a'.tmps[4]?.getD undef = (.int .i64 (k : Int)) := by have h2 : a'.tmps.getD 4 undef = (.int .i64 (k : Int)) := hkp.slot 4 (by kernel_rfl); simpa using h2
        have hi' : i < 21 := hi
        have hcases : i = 0 ∨ i = 1 ∨ i = 2 ∨ i = 3 ∨ i = 4 ∨ i = 5 ∨ i = 6 ∨ i = 7 ∨ i = 8 ∨ i = 9 ∨ i = 10 ∨ i = 11 ∨ i = 12 ∨ i = 13 ∨ i = 14 ∨ i = 15 ∨ i = 16 ∨ i = 17 ∨ i = 18 ∨ i = 19 ∨ i = 20 := by omega
        rcases hcases with rfl | rfl | rfl | rfl | rfl | rfl | rfl | rfl | rfl | rfl | rfl | rfl | rfl | rfl | rfl | rfl | rfl | rfl | rfl | rfl | rfl
        · cases ho
          refine ⟨wanted_none rfl, Oper.wp_mono (K := fun a'' w'' => a'' = a'.put (some 15) (.pointer (some ⟨w.heap.size + 1 + 1, 1, none⟩)) ∧ w'' = x) ?_ ?_⟩
          · rintro _ _ ⟨rfl, rfl⟩
            exact ⟨_, (), rfl, fun _ _ _ _ _ => rfl, fun h => hI (by have h' : (if (18 : Nat) = 0 then true else L 18) = false := h; simpa using h'), fun u hu => hu (fun h => by cases h)⟩
          · unfold Oper.wp
            simp [go_sem, s3]
        · cases ho
          have q0 : a'.tmps[15]?.getD undef = (.pointer (some ⟨w.heap.size + 1 + 1, 1, none⟩)) := by have h2 : a'.tmps.getD 15 undef = (.pointer (some ⟨w.heap.size + 1 + 1, 1, none⟩)) := hp 0 (of_decide_eq_true (by kernel_rfl)) (.inr (by decide)); simpa using h2
          have hB := hI (hre 18 (by decide +kernel))
          have fc : x.cell? ⟨w.heap.size + 1 + 1, 1, none⟩ = some v := (H1.out.out.below l2 hB).cell 1 rfl
          refine ⟨wanted_none rfl, Oper.wp_mono (K := fun a'' w'' => a'' = a'.put (some 16) v ∧ w'' = x) ?_ ?_⟩
          · rintro _ _ ⟨rfl, rfl⟩
            exact ⟨_, (), rfl, fun _ _ _ _ _ => rfl, fun h => hI (by have h' : (if (18 : Nat) = 1 then true else L 18) = false := h; simpa using h'), fun u hu => hu (fun h => by cases h)⟩
          · unfold Oper.wp
            simp [go_sem, q0, fc]
        · cases ho
          refine ⟨wanted_none rfl, Oper.wp_mono (K := fun a'' w'' => a'' = a'.put (some 17) (.pointer (some ⟨w.heap.size, 1, none⟩)) ∧ w'' = x) ?_ ?_⟩
          · rintro _ _ ⟨rfl, rfl⟩
            exact ⟨_, (), rfl, fun _ _ _ _ _ => rfl, fun h => hI (by have h' : (if (18 : Nat) = 2 then true else L 18) = false := h; simpa using h'), fun u hu => hu (fun h => by cases h)⟩
          · unfold Oper.wp
            simp [go_sem, s1]
        · cases ho
          have q2 : a'.tmps[17]?.getD undef = (.pointer (some ⟨w.heap.size, 1, none⟩)) := by have h2 : a'.tmps.getD 17 undef = (.pointer (some ⟨w.heap.size, 1, none⟩)) := hp 2 (of_decide_eq_true (by kernel_rfl)) (.inr (by decide)); simpa using h2
          have hB := hI (hre 18 (by decide +kernel))
          have fc : x.cell? ⟨w.heap.size, 1, none⟩ = some (.slice (some ⟨b, off, none⟩) n c) := (H1.out.box.below l0 hB).cell 1 rfl
          refine ⟨wanted_none rfl, Oper.wp_mono (K := fun a'' w'' => a'' = a'.put (some 18) (.slice (some ⟨b, off, none⟩) n c) ∧ w'' = x) ?_ ?_⟩
          · rintro _ _ ⟨rfl, rfl⟩
            exact ⟨_, (), rfl, fun _ _ _ _ _ => rfl, fun h => hI (by have h' : (if (18 : Nat) = 3 then true else L 18) = false := h; simpa using h'), fun u hu => hu (fun h => by cases h)⟩
          · unfold Oper.wp
            simp [go_sem, q2, fc]
        · cases ho
          refine ⟨wanted_none rfl, Oper.wp_mono (K := fun a'' w'' => a'' = a'.put (some 19) (.int .i64 (k : Int)) ∧ w'' = x) ?_ ?_⟩
          · rintro _ _ ⟨rfl, rfl⟩
            exact ⟨_, (), rfl, fun _ _ _ _ _ => rfl, fun h => hI (by have h' : (if (18 : Nat) = 4 then true else L 18) = false := h; simpa using h'), fun u hu => hu (fun h => by cases h)⟩
          · unfold Oper.wp
            simp [go_sem, s4]
        · cases ho
          have q3 : a'.tmps[18]?.getD undef = (.slice (some ⟨b, off, none⟩) n c) := by have h2 : a'.tmps.getD 18 undef = (.slice (some ⟨b, off, none⟩) n c) := hp 3 (of_decide_eq_true (by kernel_rfl)) (.inr (by decide)); simpa using h2
          have q4 : a'.tmps[19]?.getD undef = (.int .i64 (k : Int)) := by have h2 : a'.tmps.getD 19 undef = (.int .i64 (k : Int)) := hp 4 (of_decide_eq_true (by kernel_rfl)) (.inr (by decide)); simpa using h2
          refine ⟨wanted_none rfl, Oper.wp_mono (K := fun a'' w'' => a'' = a'.put (some 20) (.pointer (some ⟨b, off + k * 2, none⟩)) ∧ w'' = x) ?_ ?_⟩
          · rintro _ _ ⟨rfl, rfl⟩
            exact ⟨_, (), rfl, fun _ _ _ _ _ => rfl, fun h => hI (by have h' : (if (18 : Nat) = 5 then true else L 18) = false := h; simpa using h'), fun u hu => hu (fun h => by cases h)⟩
          · unfold Oper.wp
            simp [go_sem, q3, q4, hlt]
        · cases ho
          have q5 : a'.tmps[20]?.getD undef = (.pointer (some ⟨b, off + k * 2, none⟩)) := by have h2 : a'.tmps.getD 20 undef = (.pointer (some ⟨b, off + k * 2, none⟩)) := hp 5 (of_decide_eq_true (by kernel_rfl)) (.inr (by decide)); simpa using h2
          refine ⟨wanted_none rfl, Oper.wp_mono (K := fun a'' w'' => a'' = a'.put (some 21) (.pointer (some ⟨b, off + k * 2, none⟩)) ∧ w'' = x) ?_ ?_⟩
          · rintro _ _ ⟨rfl, rfl⟩
            exact ⟨_, (), rfl, fun _ _ _ _ _ => rfl, fun h => hI (by have h' : (if (18 : Nat) = 6 then true else L 18) = false := h; simpa using h'), fun u hu => hu (fun h => by cases h)⟩
          · unfold Oper.wp
            simp [go_sem, q5]
        · cases ho
          have q6 : a'.tmps[21]?.getD undef = (.pointer (some ⟨b, off + k * 2, none⟩)) := by have h2 : a'.tmps.getD 21 undef = (.pointer (some ⟨b, off + k * 2, none⟩)) := hp 6 (of_decide_eq_true (by kernel_rfl)) (.inr (by decide)); simpa using h2
          have hB := hI (hre 18 (by decide +kernel))
          have fc : x.cell? ⟨b, off + k * 2, none⟩ = some (.int .i64 t) := by rw [hB.cell (p := ⟨b, off + k * 2, none⟩) hb]; exact e0
          refine ⟨wanted_none rfl, Oper.wp_mono (K := fun a'' w'' => a'' = a'.put (some 22) (.int .i64 t) ∧ w'' = x) ?_ ?_⟩
          · rintro _ _ ⟨rfl, rfl⟩
            exact ⟨_, (), rfl, fun _ _ _ _ _ => rfl, fun h => hI (by have h' : (if (18 : Nat) = 7 then true else L 18) = false := h; simpa using h'), fun u hu => hu (fun h => by cases h)⟩
          · unfold Oper.wp
            simp [go_sem, q6, fc]
        · cases ho
          have hB := hI (hre 18 (by decide +kernel))
          refine ⟨wanted_none rfl, Oper.wp_mono (K := fun a'' w'' => a'' = a'.put (some 23) (.slice (some ⟨x.heap.size, 0, none⟩) 0 0) ∧ w'' = x.alloc (.cells #[] 2)) ?_ ?_⟩
          · rintro _ _ ⟨rfl, rfl⟩
            exact ⟨_, (), rfl, fun h => absurd rfl h, fun _ => hB.alloc hB.size _, fun u hu => ⟨x.heap.size, hu (fun h => by cases h), by rw [hu (fun h => by cases h)]; exact irow_built x wr.heap.size hB.size⟩⟩
          · unfold Oper.wp
            simp [go_sem]
        · cases ho
          refine ⟨wanted_none rfl, Oper.wp_mono (K := fun a'' w'' => a'' = a'.put (some 24) (.pointer (some ⟨w.heap.size, 1, none⟩)) ∧ w'' = x) ?_ ?_⟩
          · rintro _ _ ⟨rfl, rfl⟩
            exact ⟨_, (), rfl, fun _ _ _ _ _ => rfl, fun h => hI (by have h' : (if (18 : Nat) = 9 then true else L 18) = false := h; simpa using h'), fun u hu => hu (fun h => by cases h)⟩
          · unfold Oper.wp
            simp [go_sem, s1]
        · cases ho
          have q9 : a'.tmps[24]?.getD undef = (.pointer (some ⟨w.heap.size, 1, none⟩)) := by have h2 : a'.tmps.getD 24 undef = (.pointer (some ⟨w.heap.size, 1, none⟩)) := hp 9 (of_decide_eq_true (by kernel_rfl)) (.inr (by decide)); simpa using h2
          have hB := hI (hre 18 (by decide +kernel))
          have fc : x.cell? ⟨w.heap.size, 1, none⟩ = some (.slice (some ⟨b, off, none⟩) n c) := (H1.out.box.below l0 hB).cell 1 rfl
          refine ⟨wanted_none rfl, Oper.wp_mono (K := fun a'' w'' => a'' = a'.put (some 25) (.slice (some ⟨b, off, none⟩) n c) ∧ w'' = x) ?_ ?_⟩
          · rintro _ _ ⟨rfl, rfl⟩
            exact ⟨_, (), rfl, fun _ _ _ _ _ => rfl, fun h => hI (by have h' : (if (18 : Nat) = 10 then true else L 18) = false := h; simpa using h'), fun u hu => hu (fun h => by cases h)⟩
          · unfold Oper.wp
            simp [go_sem, q9, fc]
        · cases ho
          refine ⟨wanted_none rfl, Oper.wp_mono (K := fun a'' w'' => a'' = a'.put (some 26) (.int .i64 (k : Int)) ∧ w'' = x) ?_ ?_⟩
          · rintro _ _ ⟨rfl, rfl⟩
            exact ⟨_, (), rfl, fun _ _ _ _ _ => rfl, fun h => hI (by have h' : (if (18 : Nat) = 11 then true else L 18) = false := h; simpa using h'), fun u hu => hu (fun h => by cases h)⟩
          · unfold Oper.wp
            simp [go_sem, s4]
        · cases ho
          have q10 : a'.tmps[25]?.getD undef = (.slice (some ⟨b, off, none⟩) n c) := by have h2 : a'.tmps.getD 25 undef = (.slice (some ⟨b, off, none⟩) n c) := hp 10 (of_decide_eq_true (by kernel_rfl)) (.inr (by decide)); simpa using h2
          have q11 : a'.tmps[26]?.getD undef = (.int .i64 (k : Int)) := by have h2 : a'.tmps.getD 26 undef = (.int .i64 (k : Int)) := hp 11 (of_decide_eq_true (by kernel_rfl)) (.inr (by decide)); simpa using h2
          refine ⟨wanted_none rfl, Oper.wp_mono (K := fun a'' w'' => a'' = a'.put (some 27) (.pointer (some ⟨b, off + k * 2, none⟩)) ∧ w'' = x) ?_ ?_⟩
          · rintro _ _ ⟨rfl, rfl⟩
            exact ⟨_, (), rfl, fun _ _ _ _ _ => rfl, fun h => hI (by have h' : (if (18 : Nat) = 12 then true else L 18) = false := h; simpa using h'), fun u hu => hu (fun h => by cases h)⟩
          · unfold Oper.wp
            simp [go_sem, q10, q11, hlt]
        · cases ho
          have q12 : a'.tmps[27]?.getD undef = (.pointer (some ⟨b, off + k * 2, none⟩)) := by have h2 : a'.tmps.getD 27 undef = (.pointer (some ⟨b, off + k * 2, none⟩)) := hp 12 (of_decide_eq_true (by kernel_rfl)) (.inr (by decide)); simpa using h2
          refine ⟨wanted_none rfl, Oper.wp_mono (K := fun a'' w'' => a'' = a'.put (some 28) (.pointer (some ⟨b, off + k * 2 + 1, none⟩)) ∧ w'' = x) ?_ ?_⟩
          · rintro _ _ ⟨rfl, rfl⟩
            exact ⟨_, (), rfl, fun _ _ _ _ _ => rfl, fun h => hI (by have h' : (if (18 : Nat) = 13 then true else L 18) = false := h; simpa using h'), fun u hu => hu (fun h => by cases h)⟩
          · unfold Oper.wp
            simp [go_sem, q12]
        · cases ho
          have q13 : a'.tmps[28]?.getD undef = (.pointer (some ⟨b, off + k * 2 + 1, none⟩)) := by have h2 : a'.tmps.getD 28 undef = (.pointer (some ⟨b, off + k * 2 + 1, none⟩)) := hp 13 (of_decide_eq_true (by kernel_rfl)) (.inr (by decide)); simpa using h2
          have hB := hI (hre 18 (by decide +kernel))
          have fc : x.cell? ⟨b, off + k * 2 + 1, none⟩ = some (.slice ak m ck) := by rw [hB.cell (p := ⟨b, off + k * 2 + 1, none⟩) hb]; exact e1
          refine ⟨wanted_none rfl, Oper.wp_mono (K := fun a'' w'' => a'' = a'.put (some 29) (.slice ak m ck) ∧ w'' = x) ?_ ?_⟩
          · rintro _ _ ⟨rfl, rfl⟩
            exact ⟨_, (), rfl, fun _ _ _ _ _ => rfl, fun h => hI (by have h' : (if (18 : Nat) = 14 then true else L 18) = false := h; simpa using h'), fun u hu => hu (fun h => by cases h)⟩
          · unfold Oper.wp
            simp [go_sem, q13, fc]
        · cases ho
          have hB := hI (hre 18 (by decide +kernel))
          obtain ⟨gg, e8, r8⟩ := hp 8 (of_decide_eq_true (by kernel_rfl)) (.inl rfl)
          have q8 : a'.tmps.getD 23 undef = .slice (some ⟨gg, 0, none⟩) 0 0 := e8
          have q14 : a'.tmps.getD 29 undef = .slice ak m ck := hp 14 (of_decide_eq_true (by kernel_rfl)) (.inr (by decide))
          have r8' : IRow wr.heap.size x (.slice (some ⟨gg, 0, none⟩) 0 0) [] := by rw [← q8]; exact r8
          refine ⟨wanted_none rfl, int_op_app (.tmp 23) (.tmp 29) rfl wr.heap.size (.slice (some ⟨gg, 0, none⟩) 0 0) [] ak m ck l Hml.out (by simpa [Act.eval] using q8) (by simpa [Act.eval] using q14) r8' (Hr.out.below hB) hnil (by rw [Hml.out]; simp; omega) hB.size ?_⟩
          intro u w2 q1 q2 q3 q4
          have q5 : IRow wr.heap.size w2 u l := by simpa using q1
          obtain ⟨ux, uc, eu⟩ := q5.shape
          rw [Hml.out] at eu
          exact ⟨u, (), rfl, fun _ h => absurd rfl h, fun _ => hB.trans q2, fun z hz => ⟨ux, uc, by rw [hz (fun h => by cases h), eu], by rw [hz (fun h => by cases h)]; exact q5⟩⟩
        · cases ho
          obtain ⟨ux, uc, e15, r15⟩ := hp 15 (of_decide_eq_true (by kernel_rfl)) (.inl rfl)
          have r15' : IRow wr.heap.size x (.slice ux m uc) l := by rw [← e15]; exact r15
          have q15 : a'.tmps[30]?.getD undef = .slice ux m uc := by have h2 : a'.tmps.getD 30 undef = .slice ux m uc := e15; simpa using h2
          have q7 : a'.tmps[22]?.getD undef = .int .i64 t := by have h2 : a'.tmps.getD 22 undef = .int .i64 t := hp 7 (of_decide_eq_true (by kernel_rfl)) (.inr (by decide)); simpa using h2
          refine ⟨wanted_none rfl, Oper.wp_mono (K := fun a'' w'' => a'' = a'.put (some 31) (.agg #[.int .i64 t, .slice ux m uc]) ∧ w'' = x) ?_ ?_⟩
          · rintro _ _ ⟨rfl, rfl⟩
            exact ⟨_, (), rfl, fun _ _ _ _ _ => rfl, fun h => hI (by have h' : (if (18 : Nat) = 16 then true else L 18) = false := h; simpa using h'), fun u hu => ⟨ux, uc, hu (fun h => by cases h), r15'⟩⟩
          · unfold Oper.wp
            simp [go_sem, q7, q15]
        · cases ho
          have hB := hI (hre 18 (by decide +kernel))
          obtain ⟨ux, uc, e16, r16⟩ := hp 16 (of_decide_eq_true (by kernel_rfl)) (.inl rfl)
          have q16 : a'.tmps[31]?.getD undef = .agg #[.int .i64 t, .slice ux m uc] := by have h2 : a'.tmps.getD 31 undef = .agg #[.int .i64 t, .slice ux m uc] := e16; simpa using h2
          refine ⟨wanted_none rfl, Oper.wp_mono (K := fun a'' w'' => a'' = a'.put (some 32) (.slice (some ⟨x.heap.size, 0, none⟩) 1 1) ∧ w'' = x.alloc (.cells #[.int .i64 t, .slice ux m uc] 35)) ?_ ?_⟩
          · rintro _ _ ⟨rfl, rfl⟩
            exact ⟨_, (), rfl, fun _ _ h => absurd rfl h, fun _ => hB.alloc hB.size _, fun u hu => ⟨ux, uc, x.heap.size, hu (fun h => by cases h), Boxed.new _ _ _, r16.alloc _⟩⟩
          · unfold Oper.wp
            simp [go_sem, q16]
        · cases ho
          have hB := hI hLi
          obtain ⟨ux, uc, n1, e17, b17, r17⟩ := hp 17 (of_decide_eq_true (by kernel_rfl)) (.inl rfl)
          have q17 : a'.tmps.getD 32 undef = .slice (some ⟨n1, 0, none⟩) 1 1 := e17
          have q1 : a'.tmps.getD 16 undef = v := hp 1 (of_decide_eq_true (by kernel_rfl)) (.inr (by decide))
          have O2 : x.ownsRow (w.heap.size + 3) 35 2 v k (hscells rs) := hsrows_carry Out.out.1 (fun y _ hy => hB.block y hy)
          have hs2 : w.heap.size + 3 ≤ x.heap.size := Nat.le_trans Out.out.2 hB.size
          have o2 := H1.out.out.below l2 hB
          refine ⟨wanted_none rfl, hs_op_at (.tmp 16) (.tmp 32) rfl (w.heap.size + 3) v k rs ⟨t, .slice ux m uc⟩ rfl (by simpa [Act.eval] using q1) O2 (by simpa [Act.eval] using q17) b17 (by omega) hs2 ?_⟩
          intro v' w3 p1 p2 p3
          obtain ⟨vx, vc, ev⟩ := hsrows_shape p1
          have R3 := Add.out (.slice ux m uc) v' x w3 hB r17 p1 p3 p2
          have d3 : w3.cell? ⟨w.heap.size + 1 + 1, 1, none⟩ = some v := by rw [p2.cell (p := ⟨w.heap.size + 1 + 1, 1, none⟩) (by show w.heap.size + 1 + 1 < w.heap.size + 3; omega)]; exact o2.cell 1 rfl
          have z3 : w3.frozen? ⟨w.heap.size + 1 + 1, 1, none⟩ = false := by rw [ice_kept (p2.block (w.heap.size + 1 + 1) (by omega))]; exact o2.ice 1
          exact ⟨v', (), rfl, fun _ _ _ h => absurd rfl h, (fun h => by simp at h), fun u hu => by obtain rfl : u = v' := hu (fun h => by cases h); exact ⟨vx, vc, _, ev, R3, ⟨v, d3⟩, z3⟩⟩
        · cases ho
          refine ⟨wanted_none rfl, Oper.wp_mono (K := fun a'' w'' => a'' = a'.put (some 34) (.pointer (some ⟨w.heap.size + 1 + 1, 1, none⟩)) ∧ w'' = x) ?_ ?_⟩
          · rintro _ _ ⟨rfl, rfl⟩
            exact ⟨_, (), rfl, fun _ _ _ _ _ => rfl, fun h => hI (by have h' : (if (18 : Nat) = 19 then true else L 18) = false := h; simpa using h'), fun u hu => hu (fun h => by cases h)⟩
          · unfold Oper.wp
            simp [go_sem, s3]
        · cases ho
          obtain ⟨vx, vc, rs', e18, R18, ⟨yy, d18⟩, z18⟩ := hp 18 (of_decide_eq_true (by kernel_rfl)) (.inl rfl)
          have q18 : a'.tmps[33]?.getD undef = .slice vx (k + 1) vc := by have h2 : a'.tmps.getD 33 undef = .slice vx (k + 1) vc := e18; simpa using h2
          have R18' : CpD w f (some ⟨b, off, none⟩) n c ls (k + 1) (.slice vx (k + 1) vc) rs' (x.setCell ⟨w.heap.size + 1 + 1, 1, none⟩ (.slice vx (k + 1) vc)) := by rw [← e18]; exact R18
          have q19 : a'.tmps[34]?.getD undef = (.pointer (some ⟨w.heap.size + 1 + 1, 1, none⟩)) := by have h2 : a'.tmps.getD 34 undef = (.pointer (some ⟨w.heap.size + 1 + 1, 1, none⟩)) := hp 19 (of_decide_eq_true (by kernel_rfl)) (.inr (by decide)); simpa using h2
          refine ⟨wanted_none rfl, Oper.wp_mono (K := fun a'' w'' => a'' = a'.put none undef ∧ w'' = x.setCell ⟨w.heap.size + 1 + 1, 1, none⟩ (.slice vx (k + 1) vc)) ?_ ?_⟩
          · rintro _ _ ⟨rfl, rfl⟩
            exact ⟨undef, (), rfl, fun _ _ _ _ h => absurd rfl h, (fun h => by have h18 : L 18 = true := hwt 18 (of_decide_eq_true (by kernel_rfl)); have h' : (if (18 : Nat) = 20 then true else L 18) = false := h; simp [h18] at h'), fun _ _ => ⟨_, _, R18'⟩⟩
          · unfold Oper.wp
            simp [go_sem, q18, q19, d18, z18]
      case last =>
      intro L a' y x hall hkp hI hp
      have hR := hp 20 (by decide) (by decide)
      obtain ⟨v', rs', R3⟩ := hR
      have HR3 : Hid (CpD w f (some ⟨b, off, none⟩) n c ls (k + 1) v' rs' x) := R3
      have ha := hkp.pick [true, true, true, true, true, true, true, true, true, true, true, true, true, true, true, false, false, false, false, false, false, false, false, false, false, false, false, false, false, false, false, false, false, false, false, true] (by kernel_rfl)
      simp only [pickS] at ha
      clear hp hkp hI hall R3
      generalize a'.tmps.getD 15 undef = y15 at ha
      generalize a'.tmps.getD 16 undef = y16 at ha
      generalize a'.tmps.getD 17 undef = y17 at ha
      generalize a'.tmps.getD 18 undef = y18 at ha
      generalize a'.tmps.getD 19 undef = y19 at ha
      generalize a'.tmps.getD 20 undef = y20 at ha
      generalize a'.tmps.getD 21 undef = y21 at ha
      generalize a'.tmps.getD 22 undef = y22 at ha
      generalize a'.tmps.getD 23 undef = y23 at ha
      generalize a'.tmps.getD 24 undef = y24 at ha
      generalize a'.tmps.getD 25 undef = y25 at ha
      generalize a'.tmps.getD 26 undef = y26 at ha
      generalize a'.tmps.getD 27 undef = y27 at ha
      generalize a'.tmps.getD 28 undef = y28 at ha
      generalize a'.tmps.getD 29 undef = y29 at ha
      generalize a'.tmps.getD 30 undef = y30 at ha
      generalize a'.tmps.getD 31 undef = y31 at ha
      generalize a'.tmps.getD 32 undef = y32 at ha
      generalize a'.tmps.getD 33 undef = y33 at ha
      generalize a'.tmps.getD 34 undef = y34 at ha
      rw [ha]
      clear ha
      go_wp2
      go_roundw
      case rel => exact ⟨k + 1, by omega, by go_num, _, _, HR3.out⟩
      case measure => simp [intOf]; omega
    · obtain rfl : k = n := by omega
      have e : ls.take k = ls := List.take_of_length_le (by rw [Hn.out]; exact Nat.le_refl _)
      have HG : Hid (HsG (w.heap.size + 3) v rs ls wr) := by have := H1.out.g; rw [e] at this; exact this
      obtain ⟨vx, vc, ev⟩ := hsrows_shape H1.out.g.outer
      clear e
      subst ev
      go_wp2_with (first | (refine wpList_load_row rfl 26 (.tmp 3) rfl (w.heap.size + 1 + 1) rfl _ _ _ _ H1.out.out Try.underlying26 rfl (by kernel_rfl) ?_) | (refine wpList_store_row rfl 26 (.tmp 2) (.tmp 35) rfl (w.heap.size + 1) _ rfl rfl _ _ H1.out.res (by kernel_rfl) rfl (by simp [Value.oneCell']) ?_))
      refine bodyPost_ret (results_cell_row Try.results25 _ _ (w.heap.size + 1) _ _ _ _ rfl (setRow_heap _ (w.heap.size + 1) _ _ _ _ H1.out.res) Try.underlying26 rfl (by kernel_rfl)) rfl ⟨⟨_, rs, rfl, HG.out.other fun y hy _ => setRow_other _ _ _ _ (by omega)⟩, below_setRow H1.out.bel (by omega) _⟩
end Go.Proofs.Ytojmghnbekneiaa
