/-
  The walk of FnUnder, the program's contracts given. By the verifier, by program.
-/
import Derived.Test.YtfdapmchpikfiaaM2NdDrawC
import Derived.Test.YtfdapmchpikfiaaNdCanS
import Derived.Test.YtfdapmchpikfiaaNdFacts
import Derived.Test.YtfdapmchpikfiaaM5NdV
import Derived.Test.YtfdapmchpikfiaaM4IntV
import Derived.Test.YtfdapmchpikfiaaIntMk
import Derived.Test.YtfdapmchpikfiaaPickS
import Derived.BigQuiet
import Derived.BigRegion
namespace Go.Proofs.Ytfdapmchpikfiaa
open Go.RowKit

/-- What lies: the tree at the start, the tree as it is, what was paid under each node. -/
structure UdL (w : World) (gs : Nat) (s : List Nd) (sv : Value) (b1 t1 : Nat) (l : List Nd) (tv : Value) (b2 t2 : Nat) (sum : List Int) (W : World) : Prop where
  s : NdsW b1 t1 W sv s
  l : NdsW b2 t2 W tv l
  box : Boxed W gs (sum.map (Value.int .i64)).toArray 2
  off : (t1 ≤ gs ∨ gs < b1) ∧ (t2 ≤ gs ∨ gs < b2)
  bel : Below w.heap.size w W
  lo : w.heap.size ≤ gs
section
variable {w : World} {gs : Nat} {s : List Nd} {sv : Value} {b1 t1 : Nat} {l : List Nd} {tv : Value} {b2 t2 : Nat} {sum : List Int} {W W' : World}
theorem UdL.below (h : UdL w gs s sv b1 t1 l tv b2 t2 sum W) (g : Below W.heap.size W W') : UdL w gs s sv b1 t1 l tv b2 t2 sum W' :=
  ⟨h.s.below g, h.l.below g, h.box.below h.box.under g, h.off, h.bel.trans (g.mono h.bel.size), h.lo⟩
theorem UdL.tree {l' : List Nd} {v' : Value} {t3 : Nat} (h : UdL w gs s sv b1 t1 l tv b2 t2 sum W) (g : Below W.heap.size W W') (r : NdsW W.heap.size t3 W' v' l') : UdL w gs s sv b1 t1 l' v' W.heap.size t3 sum W' :=
  ⟨h.s.below g, r, h.box.below h.box.under g, ⟨h.off.1, .inr h.box.under⟩, h.bel.trans (g.mono h.bel.size), h.lo⟩
theorem UdL.put (h : UdL w gs s sv b1 t1 l tv b2 t2 sum W) (k : Nat) (x : Int) : UdL w gs s sv b1 t1 l tv b2 t2 (sum.set k x) (W.setCell ⟨gs, k, none⟩ (.int .i64 x)) := by
  have o := h.off
  refine ⟨h.s.keep (by simp [World.setCell]) (fun j j1 j2 => Below.heap_setCell _ _ _ _ (by show j ≠ gs; omega)), h.l.keep (by simp [World.setCell]) (fun j j1 j2 => Below.heap_setCell _ _ _ _ (by show j ≠ gs; omega)), ?_, h.off, h.bel.setCell (p := ⟨gs, k, none⟩) h.lo _, h.lo⟩
  have := h.box.put k (.int .i64 x)
  rw [List.map_set]
  simpa using this
theorem UdL.cell (h : UdL w gs s sv b1 t1 l tv b2 t2 sum W) {k : Nat} (hk : k < sum.length) : W.cell? ⟨gs, k, none⟩ = some (.int .i64 (sum[k]?.getD 0)) := by
  refine h.box.cell k ?_
  simp [hk]
end
theorem ndsW_spot {b t : Nat} {w : World} {a : Option Addr} {n c : Nat} {l : List Nd} (h : NdsW b t w (.slice a n c) l) : l.length = n ∧ NdsAt w a l := by
  obtain ⟨a', c', e, h1, _⟩ := h.at
  cases e
  exact ⟨rfl, h1⟩
theorem intsW_spot {b t : Nat} {w : World} {a : Option Addr} {n c : Nat} {l : List Int} (h : IntsW b t w (.slice a n c) l) : l.length = n ∧ IntsAt w a l := by
  obtain ⟨a', c', e, h1, _⟩ := h.at
  cases e
  exact ⟨rfl, h1⟩
/-- What holds at each round. -/
def UdR (w : World) (gs : Nat) (s : List Nd) (sv : Value) (b1 t1 tn : Nat) (t0 : Int) (s3 s9 s10 : Value) (W : World) : Prop :=
  ∃ (i : Nat) (now : Int) (tp : Option Addr) (tq : Nat), i ≤ 30 ∧ s10 = .int .i64 i ∧ s9 = .int .i64 now ∧ s3 = .slice tp tn tq ∧ now ≤ t0 + 4 * (i : Int) ∧ t0 ≤ now ∧ Hid (∃ (l : List Nd) (sum : List Int) (b2 t2 : Nat), Und s l sum t0 now ∧ UdL w gs s sv b1 t1 l (.slice tp tn tq) b2 t2 sum W)
/-- While one payment is put under each node on its path. -/
def UdP (w : World) (gs : Nat) (s : List Nd) (sv : Value) (b1 t1 : Nat) (l : List Nd) (tv : Value) (b2 t2 : Nat) (sum P : List Int) (pp : Option Addr) (pn pq b3 t3 : Nat) (k : Int) (s16 : Value) (W : World) : Prop :=
  ∃ j : Nat, j ≤ pn ∧ s16 = .int .i64 j ∧ Hid (UdL w gs s sv b1 t1 l tv b2 t2 (addAt sum k (P.take j)) W ∧ IntsW b3 t3 W (.slice pp pn pq) P)

set_option maxHeartbeats 12800000 in
set_option maxRecDepth 100000 in
theorem fnUnder_law
    (ICA : ∀ (l : List Nd) (a : Option Addr) (cap : Nat) (n : Int) (size : Int) (w : World), l.length ≤ 1048576 → l.length ≤ cap → (a = none → cap = 0) → Hid (NdsAt w a l) → Calls Try.prog 9 #[.slice a l.length cap, .int .i64 n, .int .i64 size] w fun e w' => e = .returned (.bool (can l n size)) ∧ Below w.heap.size w w')
    (ITF : ∀ (a : Option Addr) (c : Nat) (r : List Nd) (now : Int) (w : World), r.length ≤ 1048576 → r.length ≤ c → (a = none → c = 0) → Hid (NdsAt w a r) → Calls Try.prog 23 #[.slice a r.length c, .int .i64 now] w fun e w' => (∃ v', e = .returned (v') ∧ NdRow w.heap.size w' v' (tfilled r now)) ∧ Below w.heap.size w w')
    (IPA : ∀ (a : Option Addr) (c : Nat) (r : List Nd) (n : Int) (size : Int) (w : World), r.length ≤ 1048576 → r.length ≤ c → (a = none → c = 0) → Hid (NdsAt w a r) → Calls Try.prog 8 #[.slice a r.length c, .int .i64 n, .int .i64 size] w fun e w' => (∃ v', e = .returned (.tuple #[v', .bool (can r n size)]) ∧ NdRow w.heap.size w' v' (paid r n size)) ∧ Below w.heap.size w w')
    (IPO : ∀ (a : Option Addr) (c : Nat) (r : List Nd) (n : Int) (w : World), r.length ≤ 1048576 → r.length ≤ c → (a = none → c = 0) → Hid (NdsAt w a r) → Calls Try.prog 11 #[.slice a r.length c, .int .i64 n] w fun e w' => (∃ v', e = .returned v' ∧ IRow w.heap.size w' v' (pathOf r n)) ∧ Below w.heap.size w w')
    (a : Option Addr) (len cap : Nat) (w : World)
    (hcode : ∀ k, k < len → ∃ b off z, a = some ⟨b, off, none⟩ ∧ b < w.heap.size ∧ w.cell? ⟨b, off + k, none⟩ = some (.int .u8 z) ∧ 0 ≤ z ∧ z ≤ 255) :
    Calls Try.prog 5 #[.slice a len cap] w fun e w' => e = .returned (.bool true) ∧ Below w.heap.size w w' := by
  by_cases hbig : 4096 < len
  · clear hcode
    go_enter Try.func5, Try.ntmps5
    go_wp2
    go_ret
    exact ⟨rfl, Below.refl _ _⟩
  have hc : Hid (Code w a len) := ⟨by omega, hcode⟩
  have hb : Hid (Below w.heap.size w w) := Below.refl _ _
  have STK' : Hid (∀ (l : List Nd) (v : Value) (W : World), l.length ≤ 1048576 → NdsV W v l → Calls Try.prog 18 #[v] W fun e w' => e = .returned (.bool (tok l)) ∧ Below W.heap.size W w') := fun l v W hT hv => by
    obtain ⟨a, c, rfl, h, hc, hn⟩ := hv
    exact specTreeOk a c l W hT h
  have CA' : Hid (∀ (l : List Nd) (v : Value) (n size : Int) (W : World), l.length ≤ 1048576 → NdsV W v l → Calls Try.prog 9 #[v, .int .i64 n, .int .i64 size] W fun e w' => e = .returned (.bool (can l n size)) ∧ Below W.heap.size W w') := fun l v n size W hT hv => by
    obtain ⟨a, c, rfl, h, hc, hn⟩ := hv
    exact ICA l a c n size W hT hc hn h
  have SCA' : Hid (∀ (l : List Nd) (v : Value) (n size : Int) (W : World), l.length ≤ 1048576 → NdsV W v l → Calls Try.prog 14 #[v, .int .i64 n, .int .i64 size] W fun e w' => e = .returned (.bool (can l n size)) ∧ Below W.heap.size W w') := fun l v n size W hT hv => by
    obtain ⟨a, c, rfl, h, hc, hn⟩ := hv
    exact specCan a c l n size W hT h
  have TF' : Hid (∀ (l : List Nd) (v : Value) (now : Int) (W : World), l.length ≤ 1048576 → NdsV W v l → Calls Try.prog 23 #[v, .int .i64 now] W fun e w' => (∃ p q, e = .returned (.slice p (tfilled l now).length q) ∧ NdsW W.heap.size w'.heap.size w' (.slice p (tfilled l now).length q) (tfilled l now)) ∧ Below W.heap.size W w') := fun l v now W hT hv => by
    obtain ⟨a, c, rfl, h, hc, hn⟩ := hv
    refine (ITF a c l now W hT hc hn h).mono fun e w' hh => ?_
    obtain ⟨⟨v, rfl, r⟩, q⟩ := hh
    obtain ⟨p, q', rfl⟩ := r.shape
    exact ⟨⟨p, q', rfl, NdsW.of_row r⟩, q⟩
  have PA' : Hid (∀ (l : List Nd) (v : Value) (n size : Int) (W : World), l.length ≤ 1048576 → NdsV W v l → Calls Try.prog 8 #[v, .int .i64 n, .int .i64 size] W fun e w' => (∃ p q, e = .returned (.tuple #[.slice p (paid l n size).length q, .bool (can l n size)]) ∧ NdsW W.heap.size w'.heap.size w' (.slice p (paid l n size).length q) (paid l n size)) ∧ Below W.heap.size W w') := fun l v n size W hT hv => by
    obtain ⟨a, c, rfl, h, hc, hn⟩ := hv
    refine (IPA a c l n size W hT hc hn h).mono fun e w' hh => ?_
    obtain ⟨⟨v, rfl, r⟩, q⟩ := hh
    obtain ⟨p, q', rfl⟩ := r.shape
    exact ⟨⟨p, q', rfl, NdsW.of_row r⟩, q⟩
  have PO' : Hid (∀ (l : List Nd) (v : Value) (n : Int) (W : World), l.length ≤ 1048576 → NdsV W v l → Calls Try.prog 11 #[v, .int .i64 n] W fun e w' => (∃ p q, e = .returned (.slice p (pathOf l n).length q) ∧ IntsW W.heap.size w'.heap.size w' (.slice p (pathOf l n).length q) (pathOf l n)) ∧ Below W.heap.size W w') := fun l v n W hT hv => by
    obtain ⟨a, c, rfl, h, hc, hn⟩ := hv
    refine (IPO a c l n W hT hc hn h).mono fun e w' hh => ?_
    obtain ⟨⟨v, rfl, r⟩, q⟩ := hh
    obtain ⟨p, q', rfl⟩ := r.shape
    exact ⟨⟨p, q', rfl, IntsW.of_row r⟩, q⟩
  clear hcode ICA ITF IPA IPO
  go_enter Try.func5, Try.ntmps5
  go_wp2_with (go_at_call 6; go_in)
  refine (dDrawCan hc _ hb).mono ?_
  rintro e w1 ⟨⟨v, tl, n, size, rfl, r1, hl, hn, hs⟩, q⟩
  obtain ⟨tp, tq, rfl⟩ := r1.shape
  obtain ⟨tn, htn⟩ : ∃ n, tl.length = n := ⟨_, rfl⟩
  obtain ⟨b1, hb1⟩ : ∃ b, b = w.heap.size := ⟨_, rfl⟩
  obtain ⟨t1, ht1⟩ : ∃ b, b = w1.heap.size := ⟨_, rfl⟩
  have B1 : Hid (NdsW b1 t1 w1 (.slice tp tn tq) tl ∧ Below w.heap.size w w1 ∧ t1 ≤ w1.heap.size) := ⟨by rw [← htn, hb1, ht1]; exact NdsW.of_row r1, q, Nat.le_of_eq ht1⟩
  have Htn : Hid (tl.length = tn ∧ tl.length ≤ 1048576) := ⟨htn, by omega⟩
  rw [htn]
  rw [htn] at hl
  clear r1 q htn hs hb1 ht1 hn
  have C1 := fun v W h => CA'.out tl v n size W Htn.out.2 h
  have C1s := fun v W h => SCA'.out tl v n size W Htn.out.2 h
  generalize can tl n size = cn at C1 C1s
  have C1' : Hid _ := C1
  have C1s' : Hid _ := C1s
  clear C1 C1s CA' SCA'
  go_wp2_with fail
  refine (C1'.out _ _ B1.out.1.at).mono ?_
  rintro e w2 ⟨rfl, q⟩
  have B2 : Hid (NdsW b1 t1 w2 (.slice tp tn tq) tl ∧ Below w.heap.size w w2 ∧ t1 ≤ w2.heap.size) := ⟨B1.out.1.below q, B1.out.2.1.trans (q.mono B1.out.2.1.size), Nat.le_trans B1.out.2.2 q.size⟩
  clear q B1 C1'
  go_wp2_with fail
  refine (C1s'.out _ _ B2.out.1.at).mono ?_
  rintro e w3 ⟨rfl, q⟩
  have B3 : Hid (NdsW b1 t1 w3 (.slice tp tn tq) tl ∧ Below w.heap.size w w3 ∧ t1 ≤ w3.heap.size) := ⟨B2.out.1.below q, B2.out.2.1.trans (q.mono B2.out.2.1.size), Nat.le_trans B2.out.2.2 q.size⟩
  clear q B2 C1s'
  have D1 := fun v W h => STK'.out tl v W Htn.out.2 h
  obtain ⟨tk, htk⟩ : ∃ b, tok tl = b := ⟨_, rfl⟩
  rw [htk] at D1
  have Htk : Hid (tok tl = tk) := htk
  have D1' : Hid _ := D1
  clear D1 htk STK'
  go_wp2_with fail
  refine (D1'.out _ _ B3.out.1.at).mono ?_
  rintro e w4 ⟨rfl, q⟩
  have B4 : Hid (NdsW b1 t1 w4 (.slice tp tn tq) tl ∧ Below w.heap.size w w4 ∧ t1 ≤ w4.heap.size) := ⟨B3.out.1.below q, B3.out.2.1.trans (q.mono B3.out.2.1.size), Nat.le_trans B3.out.2.2 q.size⟩
  clear q B3 D1'
  cases tk
  · have bl : Hid (Below w.heap.size w w4) := B4.out.2.1
    clear B4 Htk
    go_wp2
    go_ret
    exact ⟨rfl, bl.out⟩
  have hok : tok tl = true := Htk.out
  have htl := tok_iff.1 hok
  have hpos : 0 < tn := by have := Htn.out.1; omega
  have h12 : tn ≤ 12 := by have := Htn.out.1; omega
  obtain ⟨bx, ox, ha1, -, -⟩ := (ndsW_spot B4.out.1).2 0 htl.1
  subst ha1
  have c4 : w4.cell? ⟨bx, ox + 4, none⟩ = some (.int .i64 (ndAt tl 0).pz.tm) := by
    have := ((ndsW_spot B4.out.1).2.cells (k := 0) htl.1).2.2.2.2
    simpa using this
  have U0 : Hid (Und tl tl (List.replicate tn 0) (ndAt tl 0).pz.tm (ndAt tl 0).pz.tm) := by rw [← Htn.out.1]; exact Und.start hok
  have htm := (Pz.ok_iff.1 (tok_at hok (k := 0) (by omega)).1).2.2.2
  generalize (ndAt tl 0).pz.tm = t0 at c4 U0 htm
  have Hok : Hid (tok tl = true) := hok
  clear hok htl Htk
  by_cases hbg : 1000 < t0
  · have hbg' : decide (1000 < t0) = true := decide_eq_true hbg
    have bl : Hid (Below w.heap.size w w4) := B4.out.2.1
    clear B4 U0
    go_wp2
    go_ret
    exact ⟨rfl, bl.out⟩
  have hbg' : decide (1000 < t0) = false := decide_eq_false hbg
  have ht1000 : t0 ≤ 1000 := by omega
  have hmk := mkInts_run tn (by omega)
  have X0 : Hid (UdL w w4.heap.size tl (.slice (some ⟨bx, ox, none⟩) tn tq) b1 t1 tl (.slice (some ⟨bx, ox, none⟩) tn tq) b1 t1 (List.replicate tn 0) (w4.alloc (.cells (madeCells #[.int .i64 0] tn) 2))) := by
    have bn : Below w4.heap.size w4 (w4.alloc (.cells (madeCells #[.int .i64 0] tn) 2)) := (Below.refl _ _).alloc (Nat.le_refl _) _
    refine ⟨B4.out.1.below bn, B4.out.1.below bn, ?_, ⟨.inl B4.out.2.2, .inl B4.out.2.2⟩, B4.out.2.1.trans (bn.mono B4.out.2.1.size), B4.out.2.1.size⟩
    have e := mkInts_cells tn
    rw [Nat.mul_one] at e
    rw [← e, Array.toArray_toList]
    exact Boxed.new _ _ _
  clear B4 hbg
  go_wp2_with fail
  generalize w4.alloc (.cells (madeCells #[.int .i64 0] tn) 2) = w5 at X0 ⊢
  generalize w4.heap.size = gs at X0 ⊢
  clear hmk c4
  have R0 : Hid (UdR w gs tl (.slice (some ⟨bx, ox, none⟩) tn tq) b1 t1 tn t0 (.slice (some ⟨bx, ox, none⟩) tn tq) (.int .i64 t0) (.int .i64 0) w5) := ⟨0, t0, _, _, by omega, rfl, rfl, rfl, by omega, Int.le_refl _, tl, _, b1, t1, U0.out, X0.out⟩
  clear X0 U0
  go_loopw [3, 9, 10, 11, 12, 13, 14, 15, 16, 17] (fun s3 s9 s10 _ _ _ _ _ _ _ wr => UdR w gs tl (.slice (some ⟨bx, ox, none⟩) tn tq) b1 t1 tn t0 s3 s9 s10 wr) (fun _ _ s10 _ _ _ _ _ _ _ _ => 30 - (intOf s10).toNat)
  case atStart => exact R0.out
  case round =>
    obtain ⟨i, now, tp, tq2, hi, rfl, rfl, rfl, hnow, hnow0, HK⟩ := hrel
    clear R0
    obtain ⟨wo, rfl⟩ : ∃ wo, wo = wr := ⟨_, rfl⟩
    obtain ⟨l, sum, b2, t2, HU0, HL0⟩ := HK.out
    have HU : Hid _ := HU0
    have HL : Hid _ := HL0
    clear HK HU0 HL0
    by_cases hlt : i < 30
    case neg =>
      have bl : Hid (Below w.heap.size w wo) := HL.out.bel
      have hlt' : ¬ (i : Int) < 30 := by omega
      clear HL HU
      go_wp2
      go_ret
      exact ⟨rfl, bl.out⟩
    have hlt' : (i : Int) < 30 := by omega
    have bo : Hid (Below w.heap.size w wo) := HL.out.bel
    go_wp2_with fail
    refine (lawPickS hc (i : Int) 4 (by omega) (by omega) (by omega) (by omega) _ bo).mono ?_
    rintro e w6 ⟨⟨y, rfl, y0, y1⟩, rfl⟩
    obtain ⟨nw, hnw⟩ : ∃ nw, nw = now + y := ⟨_, rfl⟩
    have wy : IntKind.i64.wrap (now + y) = nw := by rw [hnw, IntKind.wrap_i64]; omega
    obtain ⟨hf1, hf2⟩ := HU.out.fill (t := nw) (by omega) (by omega)
    have hll := HU.out.like.1
    have E1 := fun v W h => TF'.out l v nw W (by rw [hll]; exact Htn.out.2) h
    rw [hf1] at E1
    have HU2 : Hid _ := hf2
    have hlen2 : (tfill l nw).length = tn := by rw [tfill_len, hll]; exact Htn.out.1
    rw [hlen2] at E1
    have Hl2 : Hid ((tfill l nw).length = tn) := hlen2
    generalize tfill l nw = l2 at E1 HU2 Hl2
    have E1' : Hid _ := E1
    clear E1 hf1 hf2 hll hlen2 HU bo
    have hn0' : t0 ≤ nw := by omega
    have hn1' : nw ≤ t0 + 4 * ((i : Int) + 1) := by omega
    clear hnow hnow0 y0 y1 hnw
    go_wp2_with fail
    refine (E1'.out _ _ HL.out.l.at).mono ?_
    rintro e w7 ⟨⟨lp, lq, rfl, i1⟩, q⟩
    have HL2 : Hid (UdL w gs tl (.slice (some ⟨bx, ox, none⟩) tn tq) b1 t1 l2 (.slice lp tn lq) w6.heap.size w7.heap.size sum w7) := HL.out.tree q i1
    generalize w6.heap.size = b4 at HL2
    obtain ⟨t4, ht4⟩ : ∃ t, t = w7.heap.size := ⟨_, rfl⟩
    rw [← ht4] at HL2
    clear q i1 HL E1' ht4
    have bo : Hid (Below w.heap.size w w7) := HL2.out.bel
    have wi : IntKind.i64.wrap (40 + (i : Int)) = 40 + (i : Int) := by rw [IntKind.wrap_i64]; omega
    have wi8 : IntKind.i64.wrap (80 + (i : Int)) = 80 + (i : Int) := by rw [IntKind.wrap_i64]; omega
    go_wp2_with fail
    refine (lawPickS hc (40 + (i : Int)) (tn : Int) (by omega) (by omega) (by omega) (by omega) _ bo).mono ?_
    rintro e w8 ⟨⟨leaf, rfl, lf0, lf1⟩, rfl⟩
    go_wp2_with fail
    refine (lawPickS hc (80 + (i : Int)) 40 (by omega) (by omega) (by omega) (by omega) _ bo).mono ?_
    rintro e w9 ⟨⟨k, rfl, k0, k1⟩, rfl⟩
    clear bo wi wi8
    have hT2 : l2.length ≤ 1048576 := by rw [Hl2.out]; omega
    have F1 := fun v W h => PA'.out l2 v leaf k W hT2 h
    have F2 := fun v W h => PO'.out l2 v leaf W hT2 h
    have htin : tin l2 leaf = true := tin_iff.2 ⟨HU2.out.ok, lf0, by rw [Hl2.out]; exact lf1⟩
    have hpo : pathOf l2 leaf = path l2 leaf := by unfold pathOf; rw [if_pos htin]
    rw [hpo] at F2
    have hpl : (path l2 leaf).length ≤ 12 := by rw [← hpo]; exact pathOf_len l2 leaf
    have Hsp : Hid (∀ j, j < (path l2 leaf).length → ∃ m : Nat, (path l2 leaf)[j]?.getD 0 = (m : Int) ∧ m < tn) := fun j hj => by have := path_spots htin j hj; rw [Hl2.out] at this; exact this
    have Hnd : Hid ((path l2 leaf).Nodup) := path_nodup HU2.out.ok (by omega) (by rw [Hl2.out]; exact lf1)
    have Hbd : Hid (∀ x ∈ path l2 leaf, 0 ≤ x ∧ x < sum.length) := fun x hx => by
      have := path_mem HU2.out.ok (by omega) (by rw [Hl2.out]; exact lf1) x hx
      have h1 := HU2.out.len
      have h2 := Htn.out.1
      omega
    have hXl : (paid l2 leaf k).length = tn := by
      cases hcn : can l2 leaf k with
      | true => rw [(paid_is hcn).2.1]; exact Hl2.out
      | false => rw [paid_no hcn, if_pos HU2.out.ok]; exact Hl2.out
    rw [hXl] at F1
    have HUn : Hid ((can l2 leaf k = true → Und tl (paid l2 leaf k) (addAt sum k (path l2 leaf)) t0 nw) ∧ (can l2 leaf k = false → Und tl (paid l2 leaf k) sum t0 nw)) := by
      refine ⟨fun h => HU2.out.pay h, fun h => ?_⟩
      rw [paid_no h, if_pos HU2.out.ok]
      exact HU2.out
    generalize paid l2 leaf k = X at F1 HUn hXl
    generalize can l2 leaf k = is at F1 HUn
    generalize path l2 leaf = P at F2 Hsp Hnd Hbd hpl HUn
    obtain ⟨pn, hpn⟩ : ∃ m, P.length = m := ⟨_, rfl⟩
    rw [hpn] at F2 Hsp hpl
    have Hpn : Hid (P.length = pn) := hpn
    have HXl : Hid (X.length = tn) := hXl
    have F1' : Hid _ := F1
    have F2' : Hid _ := F2
    clear F1 F2 htin hpo hXl hpn
    go_wp2_with fail
    refine (F1'.out _ _ HL2.out.l.at).mono ?_
    rintro e wa ⟨⟨xp, xq, rfl, i1⟩, q⟩
    have HL3 : Hid (UdL w gs tl (.slice (some ⟨bx, ox, none⟩) tn tq) b1 t1 l2 (.slice lp tn lq) b4 t4 sum wa ∧ UdL w gs tl (.slice (some ⟨bx, ox, none⟩) tn tq) b1 t1 X (.slice xp tn xq) w9.heap.size wa.heap.size sum wa) := ⟨HL2.out.below q, HL2.out.tree q i1⟩
    generalize w9.heap.size = b5 at HL3
    obtain ⟨t5, ht5⟩ : ∃ t, t = wa.heap.size := ⟨_, rfl⟩
    rw [← ht5] at HL3
    clear q i1 HL2 F1' ht5
    go_wp2_with fail
    refine (F2'.out _ _ HL3.out.1.l.at).mono ?_
    rintro e wb ⟨⟨pp, pq, rfl, i1⟩, q⟩
    have HL4 : Hid (UdL w gs tl (.slice (some ⟨bx, ox, none⟩) tn tq) b1 t1 X (.slice xp tn xq) b5 t5 sum wb) := HL3.out.2.below q
    have hgs : gs < wa.heap.size := HL3.out.2.box.under
    obtain ⟨b6, hb6⟩ : ∃ t, t = wa.heap.size := ⟨_, rfl⟩
    obtain ⟨t6, ht6⟩ : ∃ t, t = wb.heap.size := ⟨_, rfl⟩
    have HP4 : Hid (IntsW b6 t6 wb (.slice pp pn pq) P ∧ gs < b6) := ⟨by rw [hb6, ht6]; exact i1, by omega⟩
    clear q i1 HL3 F2' hb6 ht6 hgs
    have hpn12 : pn ≤ 12 := hpl
    cases is
    · have HUa : Hid (Und tl X sum t0 nw) := HUn.out.2 (by first | exact trivial | exact rfl)
      go_wp2_with fail
      go_loopw [16] (fun s wr => ∃ j : Nat, j ≤ pn ∧ s = .int .i64 j ∧ Hid (UdL w gs tl (.slice (some ⟨bx, ox, none⟩) tn tq) b1 t1 X (.slice xp tn xq) b5 t5 sum wr)) (fun s _ => pn - (intOf s).toNat)
      case atStart => exact ⟨0, Nat.zero_le _, rfl, HL4⟩
      case round =>
        obtain ⟨j2, hj2, rfl, HK2⟩ := hrel
        clear HL4 HP4
        obtain ⟨wc, rfl⟩ : ∃ wc, wc = wr := ⟨_, rfl⟩
        by_cases hjp : j2 < pn
        · have hjp' : (j2 : Int) < (pn : Int) := by omega
          skip
          have HUE : Hid (Und tl X sum t0 nw) := HUa.out
          have HLE : Hid (UdL w gs tl (.slice (some ⟨bx, ox, none⟩) tn tq) b1 t1 X (.slice xp tn xq) b5 t5 sum wc) := HK2.out
          obtain ⟨sm, hsm⟩ : ∃ sm, sm = sum := ⟨_, rfl⟩
          rw [← hsm] at HUE HLE
          clear HUn hsm
          go_wp2_with fail
          go_loopw [17] (fun s wr => ∃ j : Nat, j ≤ tn ∧ s = .int .i64 j ∧ Hid (UdL w gs tl (.slice (some ⟨bx, ox, none⟩) tn tq) b1 t1 X (.slice xp tn xq) b5 t5 sm wr)) (fun s _ => tn - (intOf s).toNat)
          case atStart => exact ⟨0, Nat.zero_le _, rfl, HLE⟩
          case round =>
            obtain ⟨j, hj, rfl, HK⟩ := hrel
            clear HLE
            obtain ⟨we, rfl⟩ : ∃ we, we = wr := ⟨_, rfl⟩
            by_cases hjt : j < tn
            case neg =>
              obtain rfl : tn = j := by omega
              have Fin : Hid (UdR w gs tl (.slice (some ⟨bx, ox, none⟩) tn tq) b1 t1 tn t0 (.slice xp tn xq) (.int .i64 nw) (.int .i64 ((i : Int) + 1)) we) := ⟨i + 1, nw, xp, xq, by omega, by go_num, rfl, rfl, by omega, by omega, X, sm, b5, t5, HUE.out, HK.out⟩
              clear HK HUE
              go_wp2
              go_roundw
              case rel => exact Fin.out
              case measure => simp [intOf] <;> omega
            have hjt' : (j : Int) < (tn : Int) := by omega
            have hjl : j < tl.length := by rw [Htn.out.1]; exact hjt
            obtain ⟨m1, m2, m3⟩ := HUE.out.most hjl
            have hso := Pz.ok_iff.1 (tok_at Hok.out hjl).1
            have hmul := mul_small (a := (ndAt tl j).pz.rate) (b := nw - t0) hso.1.1 hso.1.2 (by omega) (by omega)
            have cs := HK.out.cell (k := j) (by rw [HUE.out.len]; exact hjl)
            obtain ⟨-, g1, g2, g3, -⟩ := (ndsW_spot HK.out.s).2.cells (k := j) hjl
            have Bd : Hid (∀ nq, UdL w gs tl (.slice (some ⟨bx, ox, none⟩) tn tq) b1 t1 X (.slice xp tn xq) b5 t5 sm (we.drewN nq)) := fun nq => HK.out.below ⟨rfl, rfl, rfl, Nat.le_refl _, fun _ _ => rfl⟩
            generalize sm[j]?.getD 0 = z at m1 m2 m3 cs
            generalize (ndAt tl j).pz = pz at m1 m2 hso hmul g1 g2 g3
            obtain ⟨x1, x2, x3, x4⟩ := pz
            simp only [] at m1 m2 hso hmul g1 g2 g3
            have w1' : IntKind.i64.wrap (nw - t0) = nw - t0 := by rw [IntKind.wrap_i64]; omega
            have w2' : IntKind.i64.wrap (x1 * (nw - t0)) = x1 * (nw - t0) := by rw [IntKind.wrap_i64]; omega
            have w3' : IntKind.i64.wrap (x3 + x1 * (nw - t0)) = x3 + x1 * (nw - t0) := by rw [IntKind.wrap_i64]; omega
            have w4' : IntKind.i64.wrap (x2 + x1 * (nw - t0)) = x2 + x1 * (nw - t0) := by rw [IntKind.wrap_i64]; omega
            have d1 : decide (x3 + x1 * (nw - t0) < z) = false := decide_eq_false (by omega)
            have d2 : decide (x2 + x1 * (nw - t0) < z) = false := decide_eq_false (by omega)
            clear HK hso hmul m1 m2
            go_upto_region 31 with fail
            go_quiet (fail)
            go_wp2
            go_roundw
            case rel => exact ⟨j + 1, by omega, by go_num, Bd.out _⟩
            case measure => simp [intOf] <;> omega
        · have hjp' : ¬ (j2 : Int) < (pn : Int) := by omega
          skip
          have HUE : Hid (Und tl X sum t0 nw) := HUa.out
          have HLE : Hid (UdL w gs tl (.slice (some ⟨bx, ox, none⟩) tn tq) b1 t1 X (.slice xp tn xq) b5 t5 sum wc) := HK2.out
          obtain ⟨sm, hsm⟩ : ∃ sm, sm = sum := ⟨_, rfl⟩
          rw [← hsm] at HUE HLE
          clear HUn hsm
          go_wp2_with fail
          go_loopw [17] (fun s wr => ∃ j : Nat, j ≤ tn ∧ s = .int .i64 j ∧ Hid (UdL w gs tl (.slice (some ⟨bx, ox, none⟩) tn tq) b1 t1 X (.slice xp tn xq) b5 t5 sm wr)) (fun s _ => tn - (intOf s).toNat)
          case atStart => exact ⟨0, Nat.zero_le _, rfl, HLE⟩
          case round =>
            obtain ⟨j, hj, rfl, HK⟩ := hrel
            clear HLE
            obtain ⟨we, rfl⟩ : ∃ we, we = wr := ⟨_, rfl⟩
            by_cases hjt : j < tn
            case neg =>
              obtain rfl : tn = j := by omega
              have Fin : Hid (UdR w gs tl (.slice (some ⟨bx, ox, none⟩) tn tq) b1 t1 tn t0 (.slice xp tn xq) (.int .i64 nw) (.int .i64 ((i : Int) + 1)) we) := ⟨i + 1, nw, xp, xq, by omega, by go_num, rfl, rfl, by omega, by omega, X, sm, b5, t5, HUE.out, HK.out⟩
              clear HK HUE
              go_wp2
              go_roundw
              case rel => exact Fin.out
              case measure => simp [intOf] <;> omega
            have hjt' : (j : Int) < (tn : Int) := by omega
            have hjl : j < tl.length := by rw [Htn.out.1]; exact hjt
            obtain ⟨m1, m2, m3⟩ := HUE.out.most hjl
            have hso := Pz.ok_iff.1 (tok_at Hok.out hjl).1
            have hmul := mul_small (a := (ndAt tl j).pz.rate) (b := nw - t0) hso.1.1 hso.1.2 (by omega) (by omega)
            have cs := HK.out.cell (k := j) (by rw [HUE.out.len]; exact hjl)
            obtain ⟨-, g1, g2, g3, -⟩ := (ndsW_spot HK.out.s).2.cells (k := j) hjl
            have Bd : Hid (∀ nq, UdL w gs tl (.slice (some ⟨bx, ox, none⟩) tn tq) b1 t1 X (.slice xp tn xq) b5 t5 sm (we.drewN nq)) := fun nq => HK.out.below ⟨rfl, rfl, rfl, Nat.le_refl _, fun _ _ => rfl⟩
            generalize sm[j]?.getD 0 = z at m1 m2 m3 cs
            generalize (ndAt tl j).pz = pz at m1 m2 hso hmul g1 g2 g3
            obtain ⟨x1, x2, x3, x4⟩ := pz
            simp only [] at m1 m2 hso hmul g1 g2 g3
            have w1' : IntKind.i64.wrap (nw - t0) = nw - t0 := by rw [IntKind.wrap_i64]; omega
            have w2' : IntKind.i64.wrap (x1 * (nw - t0)) = x1 * (nw - t0) := by rw [IntKind.wrap_i64]; omega
            have w3' : IntKind.i64.wrap (x3 + x1 * (nw - t0)) = x3 + x1 * (nw - t0) := by rw [IntKind.wrap_i64]; omega
            have w4' : IntKind.i64.wrap (x2 + x1 * (nw - t0)) = x2 + x1 * (nw - t0) := by rw [IntKind.wrap_i64]; omega
            have d1 : decide (x3 + x1 * (nw - t0) < z) = false := decide_eq_false (by omega)
            have d2 : decide (x2 + x1 * (nw - t0) < z) = false := decide_eq_false (by omega)
            clear HK hso hmul m1 m2
            go_upto_region 31 with fail
            go_quiet (fail)
            go_wp2
            go_roundw
            case rel => exact ⟨j + 1, by omega, by go_num, Bd.out _⟩
            case measure => simp [intOf] <;> omega
    have HUa : Hid (Und tl X (addAt sum k P) t0 nw) := HUn.out.1 (by first | exact trivial | exact rfl)
    have Q0 : Hid (UdP w gs tl (.slice (some ⟨bx, ox, none⟩) tn tq) b1 t1 X (.slice xp tn xq) b5 t5 sum P pp pn pq b6 t6 k (.int .i64 0) wb) := ⟨0, Nat.zero_le _, rfl, HL4.out, HP4.out.1⟩
    have Hg6 : Hid (gs < b6) := HP4.out.2
    have Hs0 : Hid (sum.length = tn ∧ ∀ m, m < tn → 0 ≤ sum[m]?.getD 0 ∧ sum[m]?.getD 0 ≤ 1099511727776000) := ⟨by rw [HU2.out.len]; exact Htn.out.1, fun m hm => by
      have hml : m < tl.length := by rw [Htn.out.1]; exact hm
      obtain ⟨m1, m2, m3⟩ := HU2.out.most hml
      have hso := Pz.ok_iff.1 (tok_at Hok.out hml).1
      have hmul := mul_small (a := (ndAt tl m).pz.rate) (b := nw - t0) hso.1.1 hso.1.2 (by omega) (by omega)
      omega⟩
    clear HL4 HP4
    go_wp2_with fail
    go_loopw [16] (fun s wr => UdP w gs tl (.slice (some ⟨bx, ox, none⟩) tn tq) b1 t1 X (.slice xp tn xq) b5 t5 sum P pp pn pq b6 t6 k s wr) (fun s _ => pn - (intOf s).toNat)
    case atStart => exact Q0.out
    case round =>
      obtain ⟨j2, hj2, rfl, HK2⟩ := hrel
      clear Q0
      obtain ⟨wc, rfl⟩ : ∃ wc, wc = wr := ⟨_, rfl⟩
      by_cases hjp : j2 < pn
      · have hjp' : (j2 : Int) < (pn : Int) := by omega
        obtain ⟨m, hm1, hm2⟩ := Hsp.out j2 hjp
        obtain ⟨b7, o7, ha7, -, cp⟩ := (intsW_spot HK2.out.2).2 j2 (by rw [Hpn.out]; exact hjp)
        subst ha7
        rw [hm1] at cp
        have hj2P : j2 < P.length := by rw [Hpn.out]; exact hjp
        have eP : P[j2] = (m : Int) := by rw [List.getElem?_eq_getElem hj2P] at hm1; exact hm1
        have hat : (addAt sum k (P.take j2))[m]?.getD 0 = sum[m]?.getD 0 := by
          rw [addAt_at k _ _ ((List.take_sublist j2 P).nodup Hnd.out) (fun x hx => Hbd.out x (List.mem_of_mem_take hx)) m (by rw [Hs0.out.1]; exact hm2), if_neg]
          · omega
          · intro hmm
            obtain ⟨j3, hj3, e⟩ := List.getElem_of_mem hmm
            rw [List.length_take] at hj3
            rw [List.getElem_take, ← eP] at e
            exact List.pairwise_iff_getElem.1 Hnd.out j3 j2 (by omega) hj2P (by omega) e
        have hst : addAt sum k (P.take (j2 + 1)) = (addAt sum k (P.take j2)).set m (sum[m]?.getD 0 + k) := by
          rw [List.take_succ_eq_append_getElem hj2P, addAt_snoc, eP, Int.toNat_natCast, hat]
        have cm := HK2.out.1.cell (k := m) (by rw [addAt_len, Hs0.out.1]; exact hm2)
        rw [hat] at cm
        have im := HK2.out.1.box.ice m
        have hgl : gs < wc.heap.size := HK2.out.1.box.under
        have hz := Hs0.out.2 m hm2
        have Nx : Hid (UdL w gs tl (.slice (some ⟨bx, ox, none⟩) tn tq) b1 t1 X (.slice xp tn xq) b5 t5 (addAt sum k (P.take (j2 + 1))) (wc.setCell ⟨gs, m, none⟩ (.int .i64 (sum[m]?.getD 0 + k))) ∧ IntsW b6 t6 (wc.setCell ⟨gs, m, none⟩ (.int .i64 (sum[m]?.getD 0 + k))) (.slice (some ⟨b7, o7, none⟩) pn pq) P) := ⟨by rw [hst]; exact HK2.out.1.put m _, HK2.out.2.keep (by simp [World.setCell]) (fun j j1 _ => Below.heap_setCell _ _ _ _ (by have := Hg6.out; show j ≠ gs; omega))⟩
        generalize sum[m]?.getD 0 = z at cm hz Nx
        have wz : IntKind.i64.wrap (z + k) = z + k := by rw [IntKind.wrap_i64]; omega
        have hmt : (m : Int) < (tn : Int) := by omega
        clear HK2 hm1 eP hat hst hj2P
        go_upto_region 26 with fail
        go_region
        go_wp2
        go_roundw
        case rel => exact ⟨j2 + 1, by omega, by go_num, Nx.out.1.below (Below.refl _ _).drew, Nx.out.2.below (Below.refl _ _).drew⟩
        case measure => simp [intOf] <;> omega
      · have hjp' : ¬ (j2 : Int) < (pn : Int) := by omega
        have e9 : P.take j2 = P := List.take_of_length_le (by rw [Hpn.out]; omega)
        have HK3 : Hid (UdL w gs tl (.slice (some ⟨bx, ox, none⟩) tn tq) b1 t1 X (.slice xp tn xq) b5 t5 (addAt sum k P) wc) := by have := HK2.out.1; rw [e9] at this; exact this
        clear HK2 e9
        have HUE : Hid (Und tl X (addAt sum k P) t0 nw) := HUa.out
        have HLE : Hid (UdL w gs tl (.slice (some ⟨bx, ox, none⟩) tn tq) b1 t1 X (.slice xp tn xq) b5 t5 (addAt sum k P) wc) := HK3.out
        obtain ⟨sm, hsm⟩ : ∃ sm, sm = (addAt sum k P) := ⟨_, rfl⟩
        rw [← hsm] at HUE HLE
        clear HUn hsm
        go_wp2_with fail
        go_loopw [17] (fun s wr => ∃ j : Nat, j ≤ tn ∧ s = .int .i64 j ∧ Hid (UdL w gs tl (.slice (some ⟨bx, ox, none⟩) tn tq) b1 t1 X (.slice xp tn xq) b5 t5 sm wr)) (fun s _ => tn - (intOf s).toNat)
        case atStart => exact ⟨0, Nat.zero_le _, rfl, HLE⟩
        case round =>
          obtain ⟨j, hj, rfl, HK⟩ := hrel
          clear HLE
          obtain ⟨we, rfl⟩ : ∃ we, we = wr := ⟨_, rfl⟩
          by_cases hjt : j < tn
          case neg =>
            obtain rfl : tn = j := by omega
            have Fin : Hid (UdR w gs tl (.slice (some ⟨bx, ox, none⟩) tn tq) b1 t1 tn t0 (.slice xp tn xq) (.int .i64 nw) (.int .i64 ((i : Int) + 1)) we) := ⟨i + 1, nw, xp, xq, by omega, by go_num, rfl, rfl, by omega, by omega, X, sm, b5, t5, HUE.out, HK.out⟩
            clear HK HUE
            go_wp2
            go_roundw
            case rel => exact Fin.out
            case measure => simp [intOf] <;> omega
          have hjt' : (j : Int) < (tn : Int) := by omega
          have hjl : j < tl.length := by rw [Htn.out.1]; exact hjt
          obtain ⟨m1, m2, m3⟩ := HUE.out.most hjl
          have hso := Pz.ok_iff.1 (tok_at Hok.out hjl).1
          have hmul := mul_small (a := (ndAt tl j).pz.rate) (b := nw - t0) hso.1.1 hso.1.2 (by omega) (by omega)
          have cs := HK.out.cell (k := j) (by rw [HUE.out.len]; exact hjl)
          obtain ⟨-, g1, g2, g3, -⟩ := (ndsW_spot HK.out.s).2.cells (k := j) hjl
          have Bd : Hid (∀ nq, UdL w gs tl (.slice (some ⟨bx, ox, none⟩) tn tq) b1 t1 X (.slice xp tn xq) b5 t5 sm (we.drewN nq)) := fun nq => HK.out.below ⟨rfl, rfl, rfl, Nat.le_refl _, fun _ _ => rfl⟩
          generalize sm[j]?.getD 0 = z at m1 m2 m3 cs
          generalize (ndAt tl j).pz = pz at m1 m2 hso hmul g1 g2 g3
          obtain ⟨x1, x2, x3, x4⟩ := pz
          simp only [] at m1 m2 hso hmul g1 g2 g3
          have w1' : IntKind.i64.wrap (nw - t0) = nw - t0 := by rw [IntKind.wrap_i64]; omega
          have w2' : IntKind.i64.wrap (x1 * (nw - t0)) = x1 * (nw - t0) := by rw [IntKind.wrap_i64]; omega
          have w3' : IntKind.i64.wrap (x3 + x1 * (nw - t0)) = x3 + x1 * (nw - t0) := by rw [IntKind.wrap_i64]; omega
          have w4' : IntKind.i64.wrap (x2 + x1 * (nw - t0)) = x2 + x1 * (nw - t0) := by rw [IntKind.wrap_i64]; omega
          have d1 : decide (x3 + x1 * (nw - t0) < z) = false := decide_eq_false (by omega)
          have d2 : decide (x2 + x1 * (nw - t0) < z) = false := decide_eq_false (by omega)
          clear HK hso hmul m1 m2
          go_upto_region 31 with fail
          go_quiet (fail)
          go_wp2
          go_roundw
          case rel => exact ⟨j + 1, by omega, by go_num, Bd.out _⟩
          case measure => simp [intOf] <;> omega
end Go.Proofs.Ytfdapmchpikfiaa
