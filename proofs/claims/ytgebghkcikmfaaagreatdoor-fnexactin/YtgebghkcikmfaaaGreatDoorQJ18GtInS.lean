import Derived.Test.YtgebghkcikmfaaaGreatDoorQJ3SrPlain
import Derived.Test.YtgebghkcikmfaaaGreatDoorQJ0NumUp
import Derived.Handy
import Derived.Test.YtgebghkcikmfaaaGreatDoorQJ2RuMatch
import Derived.Test.YtgebghkcikmfaaaGreatDoorQJ11GtFacts
import Derived.Test.YtgebghkcikmfaaaGreatDoorQJ13ItSrc
import Derived.Test.YtgebghkcikmfaaaGreatDoorQJ12GtFlow
import Derived.Test.YtgebghkcikmfaaaGreatDoorQJ16RdSpec
import Derived.Test.YtgebghkcikmfaaaGreatDoorQJ6RwSpecC
import Derived.Test.YtgebghkcikmfaaaGreatDoorQJ14NumMax
import Derived.Test.YtgebghkcikmfaaaGreatDoorQJ1FrInner
import Derived.Test.YtgebghkcikmfaaaGreatDoorQJ17RegList
import Derived.Test.YtgebghkcikmfaaaGreatDoorQJ5StepRow
import Derived.BigQuiet
import Derived.Deep.DeepCutAuto
/-
  The walks of the model's chapter 7: LineOk, what a line carries. By the verifier.
-/
namespace Go.Proofs.YtgebghkcikmfaaaGreatDoor
open Go.RowKit

theorem specMax (a b : Int) (w : World) :
    Calls Tryz.prog 82 #[.int .i64 a, .int .i64 b] w fun e w' => e = .returned (.int .i64 (if b < a then a else b)) ∧ w' = w := by
  by_cases h : b < a
  · rw [if_pos h]
    go_enter Tryz.func82, Tryz.ntmps82
    go_wp2
    go_ret
    exact ⟨rfl, rfl⟩
  · rw [if_neg h]
    go_enter Tryz.func82, Tryz.ntmps82
    go_wp2
    go_ret
    exact ⟨rfl, rfl⟩

set_option maxHeartbeats 1600000 in
theorem specLineOk (l : Ln) (w : World) :
    Calls Tryz.prog 66 #[l.val] w fun e w' => e = .returned (.bool l.ok) ∧ w' = w.alloc (.cells l.cells.toArray 38) := by
  have Hok : Hid (l.ok = (inB 1 3 l.kind && (inB 0 100 l.extra && inB 0 2000 l.least))) := rfl
  obtain ⟨k, x, m⟩ := l
  generalize Ln.ok _ = ok at Hok ⊢
  simp only [Ln.val, Ln.cells] at Hok ⊢
  have A1 := fun w => specIn k 1 3 w
  have A2 := fun w => specIn x 0 100 w
  have A3 := fun w => specIn m 0 2000 w
  generalize inB 1 3 k = b1 at A1 Hok
  generalize inB 0 100 x = b2 at A2 Hok
  generalize inB 0 2000 m = b3 at A3 Hok
  have A1' : Hid _ := A1
  have A2' : Hid _ := A2
  have A3' : Hid _ := A3
  clear A1 A2 A3
  go_enter Tryz.func66, Tryz.ntmps66
  go_wp2_with fail
  refine (A1'.out _).mono ?_
  rintro e w' ⟨rfl, rfl⟩
  cases b1
  · go_wp2
    go_ret
    exact ⟨ret_bool (by rw [Hok.out]; rfl), rfl⟩
  go_wp2_with fail
  refine (A2'.out _).mono ?_
  rintro e w' ⟨rfl, rfl⟩
  cases b2
  · go_wp2
    go_ret
    exact ⟨ret_bool (by rw [Hok.out]; rfl), rfl⟩
  go_wp2_with fail
  refine (A3'.out _).mono ?_
  rintro e w' ⟨rfl, rfl⟩
  go_wp2
  go_ret
  exact ⟨ret_bool (by rw [Hok.out]; rfl), rfl⟩

set_option maxHeartbeats 1600000 in
theorem specTakes (l : Ln) (n : Int) (hok : l.ok = true) (n0 : 0 ≤ n) (n1 : n ≤ 100000) (w : World) :
    Calls Tryz.prog 74 #[l.val, .int .i64 n] w fun e w' => e = .returned (.int .i64 (l.takes n)) ∧ w' = w.alloc (.cells l.cells.toArray 38) := by
  have C := fun w => specMax l.least (n + l.extra) w
  have hc0 := (carry_le hok n).1
  have hc1 := carry_most hok n1
  have Ht : Hid (l.takes n = takeK l.kind (l.carry n)) := rfl
  have Hk : Hid (∀ c, takeK l.kind c = if l.kind = 2 then (c + 47) / 48 * 53 else if l.kind = 3 then c + (c + 63) / 64 else c) := fun _ => rfl
  have ho := Ln.ok_iff.1 hok
  obtain ⟨⟨k0, k1⟩, ⟨x0, x1⟩, m0, m1⟩ := ho
  rw [show (if n + l.extra < l.least then l.least else n + l.extra) = l.carry n from rfl] at C
  generalize l.takes n = t at Ht ⊢
  generalize l.carry n = c at C hc0 hc1 Ht
  clear hok
  obtain ⟨k, x, m⟩ := l
  simp only [Ln.val, Ln.cells] at *
  have C' : Hid _ := C
  clear C
  go_enter Tryz.func74, Tryz.ntmps74
  go_wp2_with fail
  refine (C'.out _).mono ?_
  rintro e w' ⟨rfl, rfl⟩
  by_cases h2 : k = 2
  · subst h2
    go_wp2
    go_ret
    exact ⟨ret_num (by rw [Ht.out, Hk.out]; rfl), rfl⟩
  by_cases h3 : k = 3
  · subst h3
    go_wp2
    go_ret
    exact ⟨ret_num (by rw [Ht.out, Hk.out]; rfl), rfl⟩
  go_wp2
  go_ret
  exact ⟨ret_num (by rw [Ht.out, Hk.out, if_neg h2, if_neg h3]), rfl⟩

end Go.Proofs.YtgebghkcikmfaaaGreatDoor

/-
  A region in order that only reads, whose callees lay blocks of their own: walked once, in the class of the worlds in which all that lay lies. By the verifier.
-/
namespace Go.Proofs.YtgebghkcikmfaaaGreatDoor
open Go.RowKit

theorem wpList_of_quiet {P : Program} {ops : Array Oper} {C : World → Prop} {Q : Exit → Act → World → Prop} : ∀ (l : List Oper) (a : Act) (w : World), C w → wpQuiet P ops C (fun a' => ∀ w', C w' → Q .normal a' w') l a → wpList P ops Q l a w
  | [], _, w, hC, h => h w hC
  | o :: rest, a, w, hC, h => by
    unfold wpList
    unfold wpQuiet at h
    split
    · rename_i hw
      rw [if_pos hw] at h
      exact .inl (Oper.wp_of_quiet hC (fun a' w' hc hk => wpList_of_quiet rest a' w' hc hk) h)
    · rename_i hw
      rw [if_neg hw] at h
      exact wpList_of_quiet rest _ w hC h
theorem region_belowS {P : Program} {id : Nat} {Q : Exit → Act → World → Prop} {a : Act} {w : World} {l : List Oper} (n : Nat)
    (h : wpQuiet P l.toArray (fun x => ∃ p : BelW n w, x = p.w') (fun a' => ∀ x, (∃ p : BelW n w, x = p.w') → Q .normal a' x) l a) : (Code.region id l.toArray false).wp P Q a w :=
  wp_region_lit (wpList_of_quiet (C := fun x => ∃ p : BelW n w, x = p.w') l a w ⟨⟨w, Below.refl _ _⟩, rfl⟩ h)
end Go.Proofs.YtgebghkcikmfaaaGreatDoor

/-
  The walk of the model's search for the longest. By the verifier.
-/
namespace Go.Proofs.YtgebghkcikmfaaaGreatDoor
open Go.RowKit

theorem hop_take (l : List Rt) (addr : Int) (k : Nat) (hk : k < l.length) : (l.take (k + 1)).foldl (hopStep addr) (-1, -1) = hopStep addr ((l.take k).foldl (hopStep addr) (-1, -1)) (rtAt l k) := by
  rw [List.take_succ_eq_append_getElem hk, List.foldl_append, rtAt_lt hk]
  rfl

set_option maxHeartbeats 1600000 in
theorem specL4Hop (a : Option Addr) (cap : Nat) (l : List Rt) (addr : Int) (w : World) (hT : l.length ≤ 1048576) (ha : 0 ≤ addr ∧ addr ≤ 4294967295) (hok : Hid (∀ k, k < l.length → inB 0 32 (rtAt l k).bits = true)) (h : Hid (RtsAt w a l)) :
    Calls Tryz.prog 126 #[.slice a l.length cap, .int .i64 addr] w fun e w' => e = .returned (.int .i64 (hopL l addr)) ∧ Below w.heap.size w w' := by
  obtain ⟨len, hlen⟩ : ∃ n, l.length = n := ⟨_, rfl⟩
  have HL : Hid (hopL l addr = (l.foldl (hopStep addr) (-1, -1)).2) := rfl
  rw [hlen] at hT ⊢
  have Hlen : Hid (l.length = len) := hlen
  clear hlen
  go_enter Tryz.func126, Tryz.ntmps126
  go_wp2
  go_loopw [5, 6, 7] (fun b hp i wr => ∃ (k : Nat) (s : Int × Int), k ≤ len ∧ i = .int .i64 k ∧ b = .int .i64 s.1 ∧ hp = .int .i64 s.2 ∧ Hid ((l.take k).foldl (hopStep addr) (-1, -1) = s ∧ Below w.heap.size w wr)) (fun _ _ i _ => len - (intOf i).toNat)
  case atStart => exact ⟨0, (-1, -1), Nat.zero_le _, rfl, rfl, rfl, rfl, Below.refl _ _⟩
  case round =>
    obtain ⟨k, ⟨s1, s2⟩, hk, rfl, rfl, rfl, H1⟩ := hrel
    by_cases hlt : k < len
    · have R : Hid (RtsAt wr a l) := h.out.below H1.out.2
      obtain ⟨b1, o1, ha1, hb1, -⟩ := R.out k (by rw [Hlen.out]; exact hlt)
      subst ha1
      obtain ⟨c0, c1, c2⟩ := cells_at R.out (k := k) (by rw [Hlen.out]; exact hlt)
      have hs := hop_take l addr k (by rw [Hlen.out]; exact hlt)
      rw [H1.out.1] at hs
      have C := fun w => specFit (net := (rtAt l k).net) (hok.out k (by rw [Hlen.out]; exact hlt)) ha.1 ha.2 w
      unfold hopStep at hs
      generalize rtAt l k = r at c0 c1 c2 hs C
      have Hs : Hid _ := hs
      clear hs
      have B : Hid (Below w.heap.size w (wr.alloc (.cells #[.int .i64 r.net, .int .i64 r.bits, .int .i64 r.hop] 132))) := H1.out.2.alloc H1.out.2.size _
      have hlt' : (k : Int) < (len : Int) := by omega
      clear H1 R
      simp only [] at Hs ⊢
      by_cases hb : s1 < r.bits
      · cases hf : fitB r.net r.bits addr
        · rw [hf] at C
          have Hs2 : Hid (_ = (s1, s2)) := Hs.out.trans (if_neg (by simp [hf]))
          clear Hs hf
          go_wp2_with (go_at_call 185; refine (C _).mono ?_; rintro e w' ⟨rfl, rfl⟩)
          go_roundw
          case rel => exact ⟨k + 1, (s1, s2), by omega, by go_num, rfl, rfl, Hs2.out, B.out⟩
          case measure => simp [intOf]; omega
        · rw [hf] at C
          have Hs2 : Hid (_ = (r.bits, r.hop)) := Hs.out.trans (if_pos ⟨hb, hf⟩)
          clear Hs hf
          go_wp2_with (go_at_call 185; refine (C _).mono ?_; rintro e w' ⟨rfl, rfl⟩)
          go_roundw
          case rel => exact ⟨k + 1, (r.bits, r.hop), by omega, by go_num, rfl, rfl, Hs2.out, B.out⟩
          case measure => simp [intOf]; omega
      · have Hs2 : Hid (_ = (s1, s2)) := Hs.out.trans (if_neg (fun h => hb h.1))
        clear Hs C
        go_wp2
        go_roundw
        case rel => exact ⟨k + 1, (s1, s2), by omega, by go_num, rfl, rfl, Hs2.out, B.out⟩
        case measure => simp [intOf]; omega
    · obtain rfl : k = len := by omega
      go_wp2
      go_ret
      refine ⟨?_, H1.out.2⟩
      have hh := H1.out.1
      rw [List.take_of_length_le (by rw [Hlen.out]; omega)] at hh
      rw [HL.out, hh]
      rfl
end Go.Proofs.YtgebghkcikmfaaaGreatDoor

/-
  One item put behind a list of the call's own, wherever the item lies; where the answer lies. By the verifier.
-/
namespace Go.Proofs.YtgebghkcikmfaaaGreatDoor
open Go.RowKit

theorem it_op_where {o : Oper} {a : Act} {w : World} {K : Act → World → Prop} {Q : Exit → Act → World → Prop} (s x : Operand)
    (ho : o.op = .call { callee := .builtin .append, args := #[s, x], argTypes := #[111, 111] })
    (base : Nat) (v : Value) (L : List It) (r : It) (hs : a.eval s = v) (hrow : ItRow base w v L) {n : Nat} (hx : a.eval x = .slice (some ⟨n, 0, none⟩) 1 1) (hn : Boxed w n #[.int .i64 r.id, .int .i64 r.size, .int .i64 r.tm] 52)
    (hlen : L.length ≤ 1048576) (hb : base ≤ w.heap.size)
    (h : ∀ v' w', ItRow base w' v' (L ++ [r]) → Below base w w' → (∀ k, v.ownBlock ≠ some k → k < w.heap.size → w'.heap[k]? = w.heap[k]?) → (∀ k, v'.ownBlock = some k → v.ownBlock = some k ∨ w.heap.size ≤ k) → K (a.put o.dst v') w') :
    Oper.wp Tryz.prog o a w K Q := by
  obtain ⟨i0, hi, hz0, hz1, hz2⟩ := info_parts itInfo
  have hsrc : ItsAt w (some ⟨n, 0, none⟩) [r] := by
    intro k hk
    obtain rfl : k = 0 := by simpa using hk
    refine ⟨n, 0, rfl, hn.under, ?_, ?_, ?_⟩
    · exact hn.cell 0 rfl
    · exact hn.cell 1 rfl
    · exact hn.cell 2 rfl
  have hcells : itcells [r] = r.cells := by simp [itcells]
  obtain ⟨v', w', hrun, h1, h2, _, h4⟩ := run_append_where (P := Tryz.prog) w base 111 o.type 52 i0 _ 3 24 Tryz.underlying111 hi hz0 hz1 hz2 rfl (by decide) v _ _ hrow ⟨n, 0, none⟩ 1 1 r.cells rfl
    (by rw [← hcells]; exact hsrc.src) (by rw [← hcells]; exact itcells_one [r]) (by unfold maxLen; omega) (by omega) hb
  unfold Oper.wp
  simp [execOp, ho, resolve, invoke, builtin, hs, hx, hrun, Result.andThen]
  refine h v' w' ?_ ((Below.refl base w).grown h2 hb (fun j hj => (World.ownsRow.lt hrow j hj).1)) (fun j hj hl => h2.block j hl (fun e => hj e.symm)) ?_
  · unfold ItRow
    rw [List.length_append, itcells_append, hcells]
    exact h1
  · intro k hk
    rcases h4 with h4 | h4
    · left; rw [← h4]; exact hk
    · right
      rw [h4] at hk
      cases hk
      exact Nat.le_refl _
end Go.Proofs.YtgebghkcikmfaaaGreatDoor

/-
  The walk of the model's l16In. By the verifier, by program.
-/
namespace Go.Proofs.YtgebghkcikmfaaaGreatDoor
open Go.RowKit

/-- A number in the variable put. -/
theorem GtB.putDraw {b B : Nat} {w w' : World} {x : Ga} {vs : List Value} {rs : List Fwr} {g : Gt} (h : GtB b B w x vs rs g) {d : Int} (e : w' = w.setCell ⟨B, 13, none⟩ (.int .i64 d)) : GtB b B w' x vs rs { g with draw := d } := by
  have ho : ∀ k, k ≠ B → k < w.heap.size → w'.heap[k]? = w.heap[k]? := fun k hk _ => by rw [e]; exact Below.heap_setCell _ _ _ _ hk
  have q := h.own.boxed h.box ho
  refine ⟨?_, ⟨q.routes, q.rules, q.tree, q.leaves, q.rows, q.steers, q.fair, q.apart⟩⟩
  rw [e]
  exact h.box.put 13 _
theorem GtB.putNext {b B : Nat} {w w' : World} {x : Ga} {vs : List Value} {rs : List Fwr} {g : Gt} (h : GtB b B w x vs rs g) {d : Int} (e : w' = w.setCell ⟨B, 12, none⟩ (.int .i64 d)) : GtB b B w' x vs rs { g with next := d } := by
  have ho : ∀ k, k ≠ B → k < w.heap.size → w'.heap[k]? = w.heap[k]? := fun k hk _ => by rw [e]; exact Below.heap_setCell _ _ _ _ hk
  have q := h.own.boxed h.box ho
  refine ⟨?_, ⟨q.routes, q.rules, q.tree, q.leaves, q.rows, q.steers, q.fair, q.apart⟩⟩
  rw [e]
  exact h.box.put 12 _

set_option maxHeartbeats 25600000 in
set_option maxRecDepth 100000 in
theorem specInP (b B : Nat) (x : Ga) (vs : List Value) (rs : List Fwr) (g : Gt) (s : ByteArray) (w : World) (hs : s.size ≤ 1048576) (hok : g.ok = true) (hb : b ≤ w.heap.size) (hbB : b ≤ B) (h : Hid (GtB b B w x vs rs g)) :
    Calls Tryz.prog 61 #[.pointer (some ⟨B, 0, none⟩), .string s] w fun e w' => e = .returned (.int .i64 (g.inn s).2) ∧ (∃ x2 vs2 rs2, GtB b B w' x2 vs2 rs2 (g.inn s).1) ∧ Below b w w' := by
  obtain ⟨hh, hl⟩ := Gt.ok_iff.1 hok
  obtain ⟨k1, k2, k3, k4, k5, k6, k7, k8, k9, k10, k11, k12⟩ := Gt.head_iff.1 hh
  have A1 := fun (_ : Nat) => specRead s hs w
  unfold SPost at A1
  have Rd := @read_ok s
  have Hinn : Hid (g.inn s = if (sRun s).2 ≠ 0 then (g, (sRun s).2) else if (sRun s).1.sum ≠ (sRun s).1.sumOf then (g, 10) else if hopL g.routes (sRun s).1.dst < 0 then (g, 11) else if inB 1 2000 (g.ln.takes s.size) = false then (g, 12) else if g.draw < (srAt g.steers (g.leafOf (sRun s).1)).prob then (g.drawn, 13) else if g.full (g.leafOf (sRun s).1) = true then (g.drawn, 14) else (g.drawn.put (g.leafOf (sRun s).1) s.size, 0)) := rfl
  have A2 : (sRun s).2 = 0 → ∀ a cap w, Calls Tryz.prog 125 #[(sRun s).1.val a cap] w fun e w' => e = .returned (.int .i64 (sRun s).1.sumOf) ∧ Below w.heap.size w w' := fun e a cap w => specL3Sum _ a cap w (Fr.Ok.shows (Rd e).1)
  have A3 : (sRun s).2 = 0 → ∀ w', RtsAt w' x.a1 g.routes → Calls Tryz.prog 126 #[.slice x.a1 g.routes.length x.c1, .int .i64 (sRun s).1.dst] w' fun e w2 => e = .returned (.int .i64 (hopL g.routes (sRun s).1.dst)) ∧ Below w'.heap.size w' w2 := fun e w' hr => by
    have okf := (Rd e).1
    obtain ⟨h1, h2, h3, h4, h5, -⟩ := okf
    have hl64 : g.routes.length ≤ 64 := rtsOk_len k2
    exact specL4Hop x.a1 x.c1 g.routes _ w' (by omega) h5 (rtsOk_bits k2) hr
  have A4 : (sRun s).2 = 0 → ∀ w', Calls Tryz.prog 74 #[g.ln.val, .int .i64 s.size] w' fun e w2 => e = .returned (.int .i64 (g.ln.takes s.size)) ∧ Below w'.heap.size w' w2 := fun e w' => by
    have := Rd e
    exact (specTakes g.ln s.size k1 (by omega) (by omega) w').mono fun e w2 hh => ⟨hh.1, by rw [hh.2]; exact (Below.refl _ _).alloc (Nat.le_refl _) _⟩
  have A5 := fun w' => specIn (g.ln.takes s.size) 1 2000 w'
  have A6 : (sRun s).2 = 0 → ∀ a cap w', RusAt w' x.a2 g.rules → Calls Tryz.prog 127 #[.slice x.a2 g.rules.length x.c2, (sRun s).1.val a cap] w' fun e w2 => e = .returned (.int .i64 (classL g.rules (sRun s).1)) ∧ Below w'.heap.size w' w2 := fun e a cap w' hr => specClass x.a2 x.c2 g.rules _ a cap w' k3 (Fr.ok_true.2 (Rd e).1) hr
  have Hl : Hid (g.leafOf (sRun s).1 = ((10 * hopL g.routes (sRun s).1.dst + classL g.rules (sRun s).1) % (g.leaves.length : Int)).toNat) := rfl
  have Hc : (sRun s).2 = 0 → -1 ≤ hopL g.routes (sRun s).1.dst ∧ hopL g.routes (sRun s).1.dst ≤ 99 ∧ 0 ≤ classL g.rules (sRun s).1 ∧ classL g.rules (sRun s).1 ≤ 15 := fun _ => ⟨(hopL_in k2 _).1, (hopL_in k2 _).2, (classL_in k3 _).1, (classL_in k3 _).2⟩
  generalize sRun s = R0 at A1 Rd Hinn A2 A3 A4 A6 Hl Hc
  obtain ⟨⟨ft, ff, tags, fs, fd, fp, fsp, fdp, fm, fsum, fb⟩, code⟩ := R0
  simp only [Fr.val] at A1 Rd Hinn A2 A3 A4 A6 Hl Hc
  have HLf : Hid (∃ F : Fr, F = ⟨ft, ff, tags, fs, fd, fp, fsp, fdp, fm, fsum, fb⟩) := ⟨_, rfl⟩
  generalize Fr.sumOf ⟨ft, ff, tags, fs, fd, fp, fsp, fdp, fm, fsum, fb⟩ = sm at A2 Hinn
  generalize hopL g.routes fd = hop at A3 Hinn Hl Hc
  generalize hsize : g.ln.takes s.size = size at A4 A5 Hinn
  have Hsi : Hid (g.ln.takes s.size = size) := hsize
  clear hsize
  generalize classL g.rules ⟨ft, ff, tags, fs, fd, fp, fsp, fdp, fm, fsum, fb⟩ = cls at A6 Hl Hc
  generalize g.leafOf ⟨ft, ff, tags, fs, fd, fp, fsp, fdp, fm, fsum, fb⟩ = leaf at Hl Hinn
  have Rd' : Hid _ := Rd
  generalize tags.length = fn at A1 A2 A6
  have hss : (s.size : Int) ≤ 1048576 := by omega
  generalize hsz : s.size = sz at A4 A5 Hinn Rd' hss
  have Hsz : Hid (s.size = sz) := hsz
  clear hsz

  have A1' : Hid _ := A1
  have A2' : Hid _ := A2
  have A3' : Hid _ := A3
  have A4' : Hid _ := A4
  have A5' : Hid _ := A5
  have A6' : Hid _ := A6
  have Hc' : Hid _ := Hc
  have Hb : Hid (b ≤ w.heap.size ∧ b ≤ B) := ⟨hb, hbB⟩
  have Hk : Hid ((1 ≤ g.leaves.length ∧ g.leaves.length ≤ 8) ∧ g.rows.lists.length = g.leaves.length ∧ g.steers.length = g.leaves.length ∧ g.fair.flows.length = g.leaves.length ∧ (1 ≤ g.next ∧ g.next ≤ 1000000) ∧ (0 ≤ g.draw ∧ g.draw ≤ 1048575)) := ⟨k5, k7, k8, k10, k11, k12⟩
  have Hok : Hid (g.ok = true) := hok
  have Hro : Hid (g.rows.ok = true) := k6
  have Htr : Hid (1 ≤ g.tree.length) := (tok_iff.1 k4).1
  generalize hR : g.inn s = R at Hinn ⊢
  clear A1 A2 A3 A4 A5 A6 Hc Rd hb hbB hh hl k1 k2 k3 k4 k5 k6 k7 k8 k9 k10 k11 k12 hok HLf hs hR
  go_enter Tryz.func61, Tryz.ntmps61
  go_wp2_with fail
  refine (A1'.out 0).mono ?_
  rintro e w1 ⟨fa, fc, rfl, -, q⟩
  have N : Hid (Boxed (w1.alloc (.cells #[.int .i64 0, .int .i64 0, .slice none 0 0, .int .i64 0, .int .i64 0, .int .i64 0, .int .i64 0, .int .i64 0, .int .i64 0, .int .i64 0, .string ⟨#[]⟩] 175)) w1.heap.size #[.int .i64 0, .int .i64 0, .slice none 0 0, .int .i64 0, .int .i64 0, .int .i64 0, .int .i64 0, .int .i64 0, .int .i64 0, .int .i64 0, .string ⟨#[]⟩] 175) := Boxed.new _ _ _
  have bN : Below w1.heap.size w1 ((w1.alloc (.cells #[.int .i64 0, .int .i64 0, .slice none 0 0, .int .i64 0, .int .i64 0, .int .i64 0, .int .i64 0, .int .i64 0, .int .i64 0, .int .i64 0, .string ⟨#[]⟩] 175)).setRow w1.heap.size #[.int .i64 ft, .int .i64 ff, .slice fa fn fc, .int .i64 fs, .int .i64 fd, .int .i64 fp, .int .i64 fsp, .int .i64 fdp, .int .i64 fm, .int .i64 fsum, .string fb]) := below_setRow ((Below.refl _ _).alloc (Nat.le_refl _) _) (Nat.le_refl _) _
  have X : Hid (GtB b B ((w1.alloc (.cells #[.int .i64 0, .int .i64 0, .slice none 0 0, .int .i64 0, .int .i64 0, .int .i64 0, .int .i64 0, .int .i64 0, .int .i64 0, .int .i64 0, .string ⟨#[]⟩] 175)).setRow w1.heap.size #[.int .i64 ft, .int .i64 ff, .slice fa fn fc, .int .i64 fs, .int .i64 fd, .int .i64 fp, .int .i64 fsp, .int .i64 fdp, .int .i64 fm, .int .i64 fsum, .string fb]) x vs rs g ∧ Boxed ((w1.alloc (.cells #[.int .i64 0, .int .i64 0, .slice none 0 0, .int .i64 0, .int .i64 0, .int .i64 0, .int .i64 0, .int .i64 0, .int .i64 0, .int .i64 0, .string ⟨#[]⟩] 175)).setRow w1.heap.size #[.int .i64 ft, .int .i64 ff, .slice fa fn fc, .int .i64 fs, .int .i64 fd, .int .i64 fp, .int .i64 fsp, .int .i64 fdp, .int .i64 fm, .int .i64 fsum, .string fb]) w1.heap.size #[.int .i64 ft, .int .i64 ff, .slice fa fn fc, .int .i64 fs, .int .i64 fd, .int .i64 fp, .int .i64 fsp, .int .i64 fdp, .int .i64 fm, .int .i64 fsum, .string fb] 175 ∧ Below w.heap.size w ((w1.alloc (.cells #[.int .i64 0, .int .i64 0, .slice none 0 0, .int .i64 0, .int .i64 0, .int .i64 0, .int .i64 0, .int .i64 0, .int .i64 0, .int .i64 0, .string ⟨#[]⟩] 175)).setRow w1.heap.size #[.int .i64 ft, .int .i64 ff, .slice fa fn fc, .int .i64 fs, .int .i64 fd, .int .i64 fp, .int .i64 fsp, .int .i64 fdp, .int .i64 fm, .int .i64 fsum, .string fb])) := ⟨(h.out.below q).below bN, setRow_heap _ _ _ _ _ _ N.out, q.trans (bN.mono q.size)⟩
  clear q bN A1' h
  go_upto_region 2 with (refine wpList_store_row rfl 175 (.tmp 5) (.tmp 15) rfl w1.heap.size #[.int .i64 ft, .int .i64 ff, .slice fa fn fc, .int .i64 fs, .int .i64 fd, .int .i64 fp, .int .i64 fsp, .int .i64 fdp, .int .i64 fm, .int .i64 fsum, .string fb] rfl rfl _ _ N.out (by kernel_rfl) rfl (frOne _ _ _ _ _ _ _ _ _ _ _ _ _) ?_)
  generalize (w1.alloc (.cells #[.int .i64 0, .int .i64 0, .slice none 0 0, .int .i64 0, .int .i64 0, .int .i64 0, .int .i64 0, .int .i64 0, .int .i64 0, .int .i64 0, .string ⟨#[]⟩] 175)).setRow w1.heap.size #[.int .i64 ft, .int .i64 ff, .slice fa fn fc, .int .i64 fs, .int .i64 fd, .int .i64 fp, .int .i64 fsp, .int .i64 fdp, .int .i64 fm, .int .i64 fsum, .string fb] = W1 at X ⊢
  generalize w1.heap.size = F at X ⊢
  clear N
  by_cases hcode : code = 0
  case neg =>
    have e1 : R = (g, code) := by rw [Hinn.out, if_pos hcode]
    subst e1
    have hc2 : (code != 0) = true := by simpa using hcode
    clear Hinn
    go_wp2
    go_ret
    exact ⟨rfl, ⟨_, _, _, X.out.1⟩, X.out.2.2.mono Hb.out.1⟩
  subst hcode
  have e0 := Hinn.out
  rw [if_neg (by simp)] at e0
  have H2 : Hid _ := e0
  have B2 : Hid _ := A2'.out rfl fa fc
  have B3 : Hid _ := A3'.out rfl
  have B4 : Hid _ := A4'.out rfl
  have B6 : Hid _ := A6'.out rfl fa fc
  have HC : Hid _ := Hc'.out rfl
  clear e0 Hinn A2' A3' A4' A6' Hc'
  go_upto_region 4 with fail
  have Lw : Hid (∀ W2, Below W1.heap.size W1 W2 → GtB b B W2 x vs rs g ∧ Boxed W2 F #[.int .i64 ft, .int .i64 ff, .slice fa fn fc, .int .i64 fs, .int .i64 fd, .int .i64 fp, .int .i64 fsp, .int .i64 fdp, .int .i64 fm, .int .i64 fsum, .string fb] 175 ∧ Below w.heap.size w W2) := fun W2 q => ⟨X.out.1.below q, X.out.2.1.below X.out.2.1.under q, X.out.2.2.trans (q.mono X.out.2.2.size)⟩
  have d0 : ∀ p : BelW W1.heap.size W1, p.w'.cell? ⟨F, 0, none⟩ = some (.int .i64 ft) := fun p => (Lw.out _ p.h).2.1.cell 0 rfl
  have d1 : ∀ p : BelW W1.heap.size W1, p.w'.cell? ⟨F, 1, none⟩ = some (.int .i64 ff) := fun p => (Lw.out _ p.h).2.1.cell 1 rfl
  have d2 : ∀ p : BelW W1.heap.size W1, p.w'.cell? ⟨F, 2, none⟩ = some (.slice fa fn fc) := fun p => (Lw.out _ p.h).2.1.cell 2 rfl
  have d3 : ∀ p : BelW W1.heap.size W1, p.w'.cell? ⟨F, 3, none⟩ = some (.int .i64 fs) := fun p => (Lw.out _ p.h).2.1.cell 3 rfl
  have d4 : ∀ p : BelW W1.heap.size W1, p.w'.cell? ⟨F, 4, none⟩ = some (.int .i64 fd) := fun p => (Lw.out _ p.h).2.1.cell 4 rfl
  have d5 : ∀ p : BelW W1.heap.size W1, p.w'.cell? ⟨F, 5, none⟩ = some (.int .i64 fp) := fun p => (Lw.out _ p.h).2.1.cell 5 rfl
  have d6 : ∀ p : BelW W1.heap.size W1, p.w'.cell? ⟨F, 6, none⟩ = some (.int .i64 fsp) := fun p => (Lw.out _ p.h).2.1.cell 6 rfl
  have d7 : ∀ p : BelW W1.heap.size W1, p.w'.cell? ⟨F, 7, none⟩ = some (.int .i64 fdp) := fun p => (Lw.out _ p.h).2.1.cell 7 rfl
  have d8 : ∀ p : BelW W1.heap.size W1, p.w'.cell? ⟨F, 8, none⟩ = some (.int .i64 fm) := fun p => (Lw.out _ p.h).2.1.cell 8 rfl
  have d9 : ∀ p : BelW W1.heap.size W1, p.w'.cell? ⟨F, 9, none⟩ = some (.int .i64 fsum) := fun p => (Lw.out _ p.h).2.1.cell 9 rfl
  have d10 : ∀ p : BelW W1.heap.size W1, p.w'.cell? ⟨F, 10, none⟩ = some (.string fb) := fun p => (Lw.out _ p.h).2.1.cell 10 rfl
  haveI : Nonempty (BelW W1.heap.size W1) := ⟨⟨W1, Below.refl _ _⟩⟩
  refine region_below W1.heap.size (by kernel_rfl) (by kernel_rfl) ?_
  repeat (go_big_quiet_step ((go_at_call 125; with_reducible refine quiet_below (Nat.le_refl _) (B2.out _))))
  refine wpQuiet_nil ?_
  intro W2 hx
  have X2 : Hid _ := Lw.out W2 (BelW.out hx)
  clear hx Lw B2 d0 d1 d2 d3 d4 d5 d6 d7 d8 d9 d10 X
  by_cases hsum : fsum = sm
  case neg =>
    have e1 : R = (g, 10) := by rw [H2.out, if_pos hsum]
    subst e1
    have hc2 : (fsum != sm) = true := by simpa using hsum
    clear H2
    go_wp2
    go_ret
    exact ⟨rfl, ⟨_, _, _, X2.out.1⟩, X2.out.2.2.mono Hb.out.1⟩
  subst hsum
  have e0 := H2.out
  rw [if_neg (by simp)] at e0
  have H3 : Hid _ := e0
  clear e0 H2
  go_upto_region 6 with fail
  obtain ⟨W3, rfl⟩ : ∃ W, W = W2 := ⟨_, rfl⟩
  have Lw : Hid (∀ W2, Below W3.heap.size W3 W2 → GtB b B W2 x vs rs g ∧ Boxed W2 F #[.int .i64 ft, .int .i64 ff, .slice fa fn fc, .int .i64 fs, .int .i64 fd, .int .i64 fp, .int .i64 fsp, .int .i64 fdp, .int .i64 fm, .int .i64 fsum, .string fb] 175 ∧ Below w.heap.size w W2) := fun W2 q => ⟨X2.out.1.below q, X2.out.2.1.below X2.out.2.1.under q, X2.out.2.2.trans (q.mono X2.out.2.2.size)⟩
  have dF4 : ∀ p : BelW W3.heap.size W3, p.w'.cell? ⟨F, 4, none⟩ = some (.int .i64 fd) := fun p => (Lw.out _ p.h).2.1.cell 4 rfl
  have dB3 : ∀ p : BelW W3.heap.size W3, p.w'.cell? ⟨B, 3, none⟩ = some (.slice x.a1 g.routes.length x.c1) := fun p => (Lw.out _ p.h).1.box.cell 3 rfl
  haveI : Nonempty (BelW W3.heap.size W3) := ⟨⟨W3, Below.refl _ _⟩⟩
  have B3a : ∀ p : BelW W3.heap.size W3, Calls Tryz.prog 126 #[.slice x.a1 g.routes.length x.c1, .int .i64 fd] p.w' fun e w2 => e = .returned (.int .i64 hop) ∧ Below p.w'.heap.size p.w' w2 := fun p => B3.out _ (Lw.out _ p.h).1.own.routes.at
  have B3' : Hid _ := B3a
  clear B3a
  refine region_below W3.heap.size (by kernel_rfl) (by kernel_rfl) ?_
  repeat (go_big_quiet_step ((go_at_call 126; with_reducible refine quiet_below (Nat.le_refl _) (B3'.out _))))
  refine wpQuiet_nil ?_
  intro W4 hx
  have X4 : Hid _ := Lw.out W4 (BelW.out hx)
  clear hx Lw B3 B3' dF4 dB3 X2
  by_cases hhop : hop < 0
  · have e1 : R = (g, 11) := by rw [H3.out, if_pos hhop]
    subst e1
    clear H3
    go_wp2
    go_ret
    exact ⟨rfl, ⟨_, _, _, X4.out.1⟩, X4.out.2.2.mono Hb.out.1⟩
  have e0 := H3.out
  rw [if_neg hhop] at e0
  have H4 : Hid _ := e0
  clear e0 H3
  go_upto_region 9 with fail
  have Lw : Hid (∀ W2, Below W4.heap.size W4 W2 → GtB b B W2 x vs rs g ∧ Boxed W2 F #[.int .i64 ft, .int .i64 ff, .slice fa fn fc, .int .i64 fs, .int .i64 fd, .int .i64 fp, .int .i64 fsp, .int .i64 fdp, .int .i64 fm, .int .i64 fsum, .string fb] 175 ∧ Below w.heap.size w W2) := fun W2 q => ⟨X4.out.1.below q, X4.out.2.1.below X4.out.2.1.under q, X4.out.2.2.trans (q.mono X4.out.2.2.size)⟩
  have dB0 : ∀ p : BelW W4.heap.size W4, p.w'.cell? ⟨B, 0, none⟩ = some (.int .i64 g.ln.kind) := fun p => (Lw.out _ p.h).1.box.cell 0 rfl
  have dB1 : ∀ p : BelW W4.heap.size W4, p.w'.cell? ⟨B, 1, none⟩ = some (.int .i64 g.ln.extra) := fun p => (Lw.out _ p.h).1.box.cell 1 rfl
  have dB2 : ∀ p : BelW W4.heap.size W4, p.w'.cell? ⟨B, 2, none⟩ = some (.int .i64 g.ln.least) := fun p => (Lw.out _ p.h).1.box.cell 2 rfl
  haveI : Nonempty (BelW W4.heap.size W4) := ⟨⟨W4, Below.refl _ _⟩⟩
  have Ln1 : Hid (∀ w', Calls Tryz.prog 74 #[.agg #[.int .i64 g.ln.kind, .int .i64 g.ln.extra, .int .i64 g.ln.least], .int .i64 s.size] w' fun e w2 => e = .returned (.int .i64 size) ∧ Below w'.heap.size w' w2) := fun w' => by rw [Hsz.out]; exact B4.out w'
  refine region_belowS W4.heap.size ?_
  repeat (go_big_quiet_step ((go_at_call 74; with_reducible refine quiet_below (Nat.le_refl _) (Ln1.out _))))
  refine wpQuiet_nil ?_
  intro W5 hx
  have X5 : Hid _ := Lw.out W5 (BelW.out hx)
  clear hx Lw X4 dB0 dB1 dB2 B4 Ln1
  go_wp2_with fail
  refine (A5'.out _).mono ?_
  rintro e W6 ⟨rfl, hW6⟩
  obtain rfl := hW6.symm
  clear hW6 A5'
  generalize inB 1 2000 size = inb at H4 ⊢
  cases inb
  · have e1 : R = (g, 12) := by rw [H4.out, if_pos rfl]
    subst e1
    clear H4
    go_wp2
    go_ret
    exact ⟨rfl, ⟨_, _, _, X5.out.1⟩, X5.out.2.2.mono Hb.out.1⟩
  have e0 := H4.out
  rw [if_neg (by simp)] at e0
  have H5 : Hid _ := e0
  clear e0 H4
  go_upto_region 12 with fail
  have Lw : Hid (∀ W2, Below W5.heap.size W5 W2 → GtB b B W2 x vs rs g ∧ Boxed W2 F #[.int .i64 ft, .int .i64 ff, .slice fa fn fc, .int .i64 fs, .int .i64 fd, .int .i64 fp, .int .i64 fsp, .int .i64 fdp, .int .i64 fm, .int .i64 fsum, .string fb] 175 ∧ Below w.heap.size w W2) := fun W2 q => ⟨X5.out.1.below q, X5.out.2.1.below X5.out.2.1.under q, X5.out.2.2.trans (q.mono X5.out.2.2.size)⟩
  have dF0 : ∀ p : BelW W5.heap.size W5, p.w'.cell? ⟨F, 0, none⟩ = some (.int .i64 ft) := fun p => (Lw.out _ p.h).2.1.cell 0 rfl
  have dF1 : ∀ p : BelW W5.heap.size W5, p.w'.cell? ⟨F, 1, none⟩ = some (.int .i64 ff) := fun p => (Lw.out _ p.h).2.1.cell 1 rfl
  have dF2 : ∀ p : BelW W5.heap.size W5, p.w'.cell? ⟨F, 2, none⟩ = some (.slice fa fn fc) := fun p => (Lw.out _ p.h).2.1.cell 2 rfl
  have dF3 : ∀ p : BelW W5.heap.size W5, p.w'.cell? ⟨F, 3, none⟩ = some (.int .i64 fs) := fun p => (Lw.out _ p.h).2.1.cell 3 rfl
  have dF4 : ∀ p : BelW W5.heap.size W5, p.w'.cell? ⟨F, 4, none⟩ = some (.int .i64 fd) := fun p => (Lw.out _ p.h).2.1.cell 4 rfl
  have dF5 : ∀ p : BelW W5.heap.size W5, p.w'.cell? ⟨F, 5, none⟩ = some (.int .i64 fp) := fun p => (Lw.out _ p.h).2.1.cell 5 rfl
  have dF6 : ∀ p : BelW W5.heap.size W5, p.w'.cell? ⟨F, 6, none⟩ = some (.int .i64 fsp) := fun p => (Lw.out _ p.h).2.1.cell 6 rfl
  have dF7 : ∀ p : BelW W5.heap.size W5, p.w'.cell? ⟨F, 7, none⟩ = some (.int .i64 fdp) := fun p => (Lw.out _ p.h).2.1.cell 7 rfl
  have dF8 : ∀ p : BelW W5.heap.size W5, p.w'.cell? ⟨F, 8, none⟩ = some (.int .i64 fm) := fun p => (Lw.out _ p.h).2.1.cell 8 rfl
  have dF9 : ∀ p : BelW W5.heap.size W5, p.w'.cell? ⟨F, 9, none⟩ = some (.int .i64 fsum) := fun p => (Lw.out _ p.h).2.1.cell 9 rfl
  have dF10 : ∀ p : BelW W5.heap.size W5, p.w'.cell? ⟨F, 10, none⟩ = some (.string fb) := fun p => (Lw.out _ p.h).2.1.cell 10 rfl
  have dB4 : ∀ p : BelW W5.heap.size W5, p.w'.cell? ⟨B, 4, none⟩ = some (.slice x.a2 g.rules.length x.c2) := fun p => (Lw.out _ p.h).1.box.cell 4 rfl
  have dB6 : ∀ p : BelW W5.heap.size W5, p.w'.cell? ⟨B, 6, none⟩ = some (.slice x.a4 g.leaves.length x.c4) := fun p => (Lw.out _ p.h).1.box.cell 6 rfl
  haveI : Nonempty (BelW W5.heap.size W5) := ⟨⟨W5, Below.refl _ _⟩⟩
  have B6a : ∀ p : BelW W5.heap.size W5, Calls Tryz.prog 127 #[.slice x.a2 g.rules.length x.c2, .agg #[.int .i64 ft, .int .i64 ff, .slice fa fn fc, .int .i64 fs, .int .i64 fd, .int .i64 fp, .int .i64 fsp, .int .i64 fdp, .int .i64 fm, .int .i64 fsum, .string fb]] p.w' fun e w2 => e = .returned (.int .i64 cls) ∧ Below p.w'.heap.size p.w' w2 := fun p => B6.out _ (Lw.out _ p.h).1.own.rules.at
  have B6' : Hid _ := B6a
  obtain ⟨q1, q2, q3, q4⟩ := HC.out
  obtain ⟨⟨l1, l8⟩, -⟩ := Hk.out
  have hop0 : 0 ≤ hop := by omega
  have wr1 : IntKind.i64.wrap (10 * hop) = 10 * hop := by rw [IntKind.wrap_i64]; omega
  have wr2 : IntKind.i64.wrap (10 * hop + cls) = 10 * hop + cls := by rw [IntKind.wrap_i64]; omega
  have hlz : ¬ (g.leaves.length : Int) = 0 := by omega
  have hlf : Int.tmod (10 * hop + cls) (g.leaves.length : Int) = (leaf : Int) := by
    rw [Hl.out, Int.tmod_eq_emod_of_nonneg (by omega)]
    have := Int.emod_nonneg (10 * hop + cls) (b := (g.leaves.length : Int)) (by omega)
    omega
  have hll : leaf < g.leaves.length := by
    have h1 := Int.emod_lt_of_pos (10 * hop + cls) (b := (g.leaves.length : Int)) (by omega)
    have h2 := Int.emod_nonneg (10 * hop + cls) (b := (g.leaves.length : Int)) (by omega)
    rw [Hl.out]
    omega
  have wr3 : IntKind.i64.wrap (leaf : Int) = (leaf : Int) := by rw [IntKind.wrap_i64]; omega
  clear B6a B6 HC Hl
  refine region_below W5.heap.size (by kernel_rfl) (by kernel_rfl) ?_
  repeat (go_big_quiet_step ((go_at_call 127; with_reducible refine quiet_below (Nat.le_refl _) (B6'.out _))))
  refine wpQuiet_nil ?_
  intro W7 hx
  have X7 : Hid _ := Lw.out W7 (BelW.out hx)
  clear hx Lw B6' dF0 dF1 dF2 dF3 dF4 dF5 dF6 dF7 dF8 dF9 dF10 dB4 dB6 X5
  go_upto_region 13 with fail
  obtain ⟨-, hk5, hk6, hk7, -, dr0, dr1⟩ := Hk.out
  have cB13 : W7.cell? ⟨B, 13, none⟩ = some (.int .i64 g.draw) := X7.out.1.box.cell 13 rfl
  have f13 := X7.out.1.box.ice 13
  have hOl : B < W7.heap.size := X7.out.1.box.under
  obtain ⟨nd, hnd⟩ : ∃ nd, (g.draw * 25173 + 13849) % 1048576 = nd := ⟨_, rfl⟩
  have wd1 : IntKind.i64.wrap (g.draw * 25173) = g.draw * 25173 := by rw [IntKind.wrap_i64]; omega
  have wd2 : IntKind.i64.wrap (g.draw * 25173 + 13849) = g.draw * 25173 + 13849 := by rw [IntKind.wrap_i64]; omega
  have wd3 : Int.tmod (g.draw * 25173 + 13849) 1048576 = nd := by rw [Int.tmod_eq_emod_of_nonneg (by omega)]; exact hnd
  have wd4 : IntKind.i64.wrap nd = nd := by rw [IntKind.wrap_i64]; omega
  have Hnd : Hid (g.drawn = { g with draw := nd }) := by show Gt.drawn g = _; unfold Gt.drawn; rw [hnd]
  clear hnd q1 q2 q3 q4 wr1 wr2 wr3 hop0 hhop hlf hlz
  go_upto_region 15 with fail
  have X8 : Hid (GtB b B (W7.setCell ⟨B, 13, none⟩ (.int .i64 nd)) x vs rs { g with draw := nd } ∧ Below b w (W7.setCell ⟨B, 13, none⟩ (.int .i64 nd)) ∧ b ≤ (W7.setCell ⟨B, 13, none⟩ (.int .i64 nd)).heap.size) := by
    have e9 : (W7.setCell ⟨B, 13, none⟩ (.int .i64 nd)).heap.size = W7.heap.size := by simp [World.setCell]
    refine ⟨X7.out.1.putDraw rfl, (X7.out.2.2.mono Hb.out.1).setCell Hb.out.2 _, ?_⟩
    rw [e9]
    exact Nat.le_trans Hb.out.1 X7.out.2.2.size
  clear cB13 f13 hOl X7 wd1 wd2 wd3 wd4
  generalize W7.setCell ⟨B, 13, none⟩ (.int .i64 nd) = W8 at X8 ⊢
  have Hfu : Hid (g.full leaf = Gt.full { g with draw := nd } leaf) := rfl
  have Hpu : Hid (∀ n, Gt.put g.drawn leaf n = Gt.put { g with draw := nd } leaf n) := fun n => by rw [Hnd.out]
  have H6 : Hid (R = if g.draw < (srAt g.steers leaf).prob then ({ g with draw := nd }, 13) else if Gt.full { g with draw := nd } leaf = true then ({ g with draw := nd }, 14) else (Gt.put { g with draw := nd } leaf sz, 0)) := by
    show R = _
    rw [H5.out, ← Hfu.out, ← Hnd.out]
  clear H5 Hfu Hpu Hnd
  obtain ⟨sb, so, ea6, -, -, -, t3⟩ := X8.out.1.own.steers.at leaf (by show leaf < g.steers.length; omega)
  have cB9 : W8.cell? ⟨B, 9, none⟩ = some (.slice (some ⟨sb, so, none⟩) g.steers.length x.c6) := by rw [← ea6]; exact X8.out.1.box.cell 9 rfl
  have hl6 : leaf < g.steers.length := by omega
  have T3 : W8.cell? ⟨sb, so + leaf * 3 + 2, none⟩ = some (.int .i64 (srAt g.steers leaf).prob) := t3
  clear t3
  have EA6 : Hid (x.a6 = some ⟨sb, so, none⟩) := ea6
  clear ea6
  generalize (srAt g.steers leaf).prob = prob at T3 H6
  generalize g.steers.length = n6 at cB9 hl6 hk6
  generalize g.draw = dr at H6 dr0 dr1 ⊢
  by_cases hpr : dr < prob
  · have e1 : R = ({ g with draw := nd }, 13) := by rw [H6.out, if_pos hpr]
    subst e1
    clear H6
    go_wp2
    go_ret
    exact ⟨rfl, ⟨_, _, _, X8.out.1⟩, X8.out.2.1⟩
  have e0 := H6.out
  rw [if_neg hpr] at e0
  have H7 : Hid _ := e0
  clear e0 H6
  go_upto_region 17 with fail
  clear T3 cB9 hl6 hk6 EA6
  have hl7 : leaf < g.fair.flows.length := by omega
  obtain ⟨fk, ea7⟩ : ∃ fk, x.a7 = some ⟨fk, 0, none⟩ := by
    rcases X8.out.1.own.fair.outer.2 with ⟨_, hn⟩ | ⟨fk, cap', cur, e, h2, h3, h4⟩
    · have : g.fair.flows.length = 0 := hn
      omega
    · injection e with e1 e2 e3
      exact ⟨fk, e1⟩
  obtain ⟨ha, hc, ehd⟩ := fwrows_shape (X8.out.1.own.fair.row leaf hl7)
  have Lw : Hid (∀ W2, Below W8.heap.size W8 W2 → GtB b B W2 x vs rs { g with draw := nd } ∧ Below b w W2 ∧ b ≤ W2.heap.size) := fun W2 q => ⟨X8.out.1.below q, X8.out.2.1.trans (q.mono X8.out.2.2), Nat.le_trans X8.out.2.2 q.size⟩
  have cB11 : W8.cell? ⟨B, 11, none⟩ = some (.slice (some ⟨fk, 0, none⟩) g.fair.flows.length x.c7) := by rw [← ea7]; exact X8.out.1.box.cell 11 rfl
  have dB12 : ∀ p : BelW W8.heap.size W8, p.w'.cell? ⟨B, 12, none⟩ = some (.int .i64 g.next) := fun p => (Lw.out _ p.h).1.box.cell 12 rfl
  have dB7 : ∀ p : BelW W8.heap.size W8, p.w'.cell? ⟨B, 7, none⟩ = some (.int .i64 g.rows.most) := fun p => (Lw.out _ p.h).1.box.cell 7 rfl
  have dB8 : ∀ p : BelW W8.heap.size W8, p.w'.cell? ⟨B, 8, none⟩ = some (.slice x.a5 g.rows.lists.length x.c5) := fun p => (Lw.out _ p.h).1.box.cell 8 rfl
  have dF : ∀ p : BelW W8.heap.size W8, p.w'.cell? ⟨fk, leaf * 3 + 2, none⟩ = some (.slice ha (fwAt g.fair.flows leaf).sizes.length hc) := fun p => by
    have F1 := (Lw.out _ p.h).1.own.fair
    have F2 : p.w'.ownsRow b 116 3 (.slice (some ⟨fk, 0, none⟩) g.fair.flows.length x.c7) g.fair.flows.length (fwcells rs) := by rw [← ea7]; exact F1.outer
    rw [World.ownsRow.cellAt F2 (leaf * 3 + 2) (by omega), (fwcells_get rs leaf (by rw [F1.len]; exact hl7)).2.2, ehd]
  have Cn : ∀ p : BelW W8.heap.size W8, Calls Tryz.prog 128 #[.agg #[.int .i64 g.rows.most, .slice x.a5 g.rows.lists.length x.c5]] p.w' fun e w' => e = .returned (.int .i64 (izSum g.rows.lists g.rows.lists.length)) ∧ Below p.w'.heap.size p.w' w' := fun p =>
    specCountL g.rows x.a5 x.c5 _ (Nat.le_trans (ok_small Hro.out) (by omega)) (IzIn.at ⟨vs, (Lw.out _ p.h).1.own.rows.done⟩)
  obtain ⟨fu, hfu⟩ : ∃ fu, Gt.full { g with draw := nd } leaf = fu := ⟨_, rfl⟩
  rw [hfu] at H7
  have Hf : Hid (fu = (decide (g.next = 1000000) || (decide ((izSum g.rows.lists g.rows.lists.length : Int) = g.rows.most) || decide ((fwAt g.fair.flows leaf).sizes.length = 40)))) := by show fu = _; rw [← hfu]; rfl
  clear hfu
  have EA7 : Hid (x.a7 = some ⟨fk, 0, none⟩ ∧ (fwrAt rs leaf).hd = .slice ha (fwAt g.fair.flows leaf).sizes.length hc) := ⟨ea7, ehd⟩
  have Nz : Hid (∃ nx mo n5 cnt n7 hn, g.next = nx ∧ g.rows.most = mo ∧ g.rows.lists.length = n5 ∧ izSum g.rows.lists g.rows.lists.length = cnt ∧ g.fair.flows.length = n7 ∧ (fwAt g.fair.flows leaf).sizes.length = hn) := ⟨_, _, _, _, _, _, rfl, rfl, rfl, rfl, rfl, rfl⟩
  obtain ⟨nx, mo, n5, cnt, n7, hn, z1, z2, z3, z4, z5, z6⟩ := Nz.out
  rw [z1] at dB12 Hf
  rw [z4, z2] at Hf
  rw [z6] at Hf dF
  rw [z5] at cB11 hl7
  rw [z2] at dB7 Cn
  rw [z4] at Cn
  rw [z3] at dB8 Cn
  have Z : Hid (g.next = nx ∧ g.rows.most = mo ∧ g.rows.lists.length = n5 ∧ izSum g.rows.lists n5 = cnt ∧ g.fair.flows.length = n7 ∧ (fwAt g.fair.flows leaf).sizes.length = hn) := ⟨z1, z2, z3, by rw [← z3]; exact z4, z5, z6⟩
  clear Nz z1 z2 z3 z4 z5 z6 ea7 ehd hk5 hk7
  have Cn' : Hid _ := Cn
  clear Cn
  go_upto_region 18 with fail
  haveI : Nonempty (BelW W8.heap.size W8) := ⟨⟨W8, Below.refl _ _⟩⟩
  have full : ∀ {o : Bool}, fu = o → Hid (R = if o = true then ({ g with draw := nd }, 14) else (Gt.put { g with draw := nd } leaf sz, 0)) := fun e => by show R = _; rw [H7.out, e]
  by_cases n1 : nx = 1000000
  · have e1 : R = ({ g with draw := nd }, 14) := by have := (full (o := true) (by rw [Hf.out]; simp [n1])).out; simpa using this
    subst e1
    subst n1
    clear H7 Hf full
    refine region_below W8.heap.size (by kernel_rfl) (by kernel_rfl) ?_
    repeat (go_big_quiet_step ((go_at_call 128; with_reducible refine quiet_below (Nat.le_refl _) (Cn'.out _))))
    refine wpQuiet_nil ?_
    intro W9 hx
    have X9 : Hid _ := Lw.out W9 (BelW.out hx)
    clear hx
    go_wp2
    go_ret
    exact ⟨rfl, ⟨_, _, _, X9.out.1⟩, X9.out.2.1⟩
  have n2 : (nx == 1000000) = false := by simpa using n1
  by_cases c1 : (cnt : Int) = mo
  · have e1 : R = ({ g with draw := nd }, 14) := by have := (full (o := true) (by rw [Hf.out]; simp [c1])).out; simpa using this
    subst e1
    have c2 : ((cnt : Int) == mo) = true := by simpa using c1
    clear H7 Hf full c1
    refine region_below W8.heap.size (by kernel_rfl) (by kernel_rfl) ?_
    repeat (go_big_quiet_step ((go_at_call 128; with_reducible refine quiet_below (Nat.le_refl _) (Cn'.out _))))
    refine wpQuiet_nil ?_
    intro W9 hx
    have X9 : Hid _ := Lw.out W9 (BelW.out hx)
    clear hx
    go_wp2
    go_ret
    exact ⟨rfl, ⟨_, _, _, X9.out.1⟩, X9.out.2.1⟩
  have c2 : ((cnt : Int) == mo) = false := by simpa using c1
  by_cases s1 : hn = 40
  · have e1 : R = ({ g with draw := nd }, 14) := by have := (full (o := true) (by rw [Hf.out]; simp [s1])).out; simpa using this
    subst e1
    subst s1
    clear H7 Hf full c1
    refine region_below W8.heap.size (by kernel_rfl) (by kernel_rfl) ?_
    repeat (go_big_quiet_step ((go_at_call 128; with_reducible refine quiet_below (Nat.le_refl _) (Cn'.out _))))
    refine wpQuiet_nil ?_
    intro W9 hx
    have X9 : Hid _ := Lw.out W9 (BelW.out hx)
    clear hx
    go_wp2
    go_ret
    exact ⟨rfl, ⟨_, _, _, X9.out.1⟩, X9.out.2.1⟩
  have s2 : ((hn : Int) == 40) = false := by simp; omega
  have e1 : R = (Gt.put { g with draw := nd } leaf sz, 0) := by have := (full (o := false) (by rw [Hf.out]; simp [n1, c1, s1])).out; simpa using this
  subst e1
  clear H7 Hf full
  refine region_below W8.heap.size (by kernel_rfl) (by kernel_rfl) ?_
  repeat (go_big_quiet_step ((go_at_call 128; with_reducible refine quiet_below (Nat.le_refl _) (Cn'.out _))))
  refine wpQuiet_nil ?_
  intro W9 hx
  have X9 : Hid _ := Lw.out W9 (BelW.out hx)
  clear hx
  go_upto_region 20 with fail
  clear dB12 dB7 dB8 dF Lw Cn' cB11 X8 hl7
  obtain ⟨hbw, -⟩ := Hb.out
  have hl5 : leaf < g.rows.lists.length := by have := Hk.out.2.1; omega
  obtain ⟨rk, ea5⟩ : ∃ rk, x.a5 = some ⟨rk, 0, none⟩ := by
    rcases X9.out.1.own.rows.outer.2 with ⟨_, hn⟩ | ⟨fk, cap', cur, e, h2, h3, h4⟩
    · have : g.rows.lists.length = 0 := hn
      omega
    · injection e with e1 e2 e3
      exact ⟨fk, e1⟩
  have ht1 := Htr.out
  obtain ⟨tk, ea3⟩ : ∃ tk, x.a3 = some ⟨tk, 0, none⟩ := by
    rcases X9.out.1.own.tree.2 with ⟨_, hn⟩ | ⟨fk, cap', cur, e, h2, h3, h4⟩
    · have : g.tree.length = 0 := hn
      omega
    · injection e with e1 e2 e3
      exact ⟨fk, e1⟩
  obtain ⟨ra, rc, ehv⟩ := rows_shape (X9.out.1.own.rows.row leaf hl5)
  have RW9 : Hid (ItRow b W9 (izV vs leaf) (izAt g.rows.lists leaf)) := X9.out.1.own.rows.row leaf hl5
  have hm : (izAt g.rows.lists leaf).length ≤ 1048576 := (Rw.small (Nat.le_trans (ok_small Hro.out) (by omega))).2.2 leaf hl5
  have ehv : izV vs leaf = .slice ra (izAt g.rows.lists leaf).length rc := ehv
  have hz5 : g.rows.lists.length = n5 := Z.out.2.2.1
  have hz1 : g.next = nx := Z.out.1
  obtain ⟨tm, htm⟩ : ∃ tm, (ndAt g.tree 0).pz.tm = tm := ⟨_, rfl⟩
  have RY : Hid (∀ X : World, (W9.heap.size ≤ X.heap.size ∧ Below b W9 X ∧ ∀ k, (izV vs leaf).ownBlock ≠ some k → k < W9.heap.size → X.heap[k]? = W9.heap[k]?) → X.cell? ⟨B, 8, none⟩ = some (.slice (some ⟨rk, 0, none⟩) n5 x.c5) ∧ X.cell? ⟨B, 12, none⟩ = some (.int .i64 nx) ∧ X.cell? ⟨B, 5, none⟩ = some (.slice (some ⟨tk, 0, none⟩) g.tree.length x.c3) ∧ X.cell? ⟨rk, leaf, none⟩ = some (.slice ra (izAt g.rows.lists leaf).length rc) ∧ X.cell? ⟨tk, 4, none⟩ = some (.int .i64 tm) ∧ X.frozen? ⟨rk, leaf, none⟩ = false) := fun X q => by
    obtain ⟨y1, y2, y3⟩ := X9.out.1.besides (j := leaf) hl5 q.2.2
    have y2' : X.ownsRow b 111 1 (.slice (some ⟨rk, 0, none⟩) g.rows.lists.length x.c5) g.rows.lists.length vs := by rw [← ea5]; exact y2
    obtain ⟨tb, tof, te, -, -, -, -, -, t4⟩ := y3.at 0 (by show 0 < g.tree.length; omega)
    have te' : (some ⟨tk, 0, none⟩ : Option Addr) = some ⟨tb, tof, none⟩ := by rw [← ea3]; exact te
    cases te'
    refine ⟨?_, ?_, ?_, ?_, ?_, World.ownsRow.frozenAt y2' leaf⟩
    · rw [← ea5, ← hz5]; exact y1.cell 8 rfl
    · rw [← hz1]; exact y1.cell 12 rfl
    · rw [← ea3]; exact y1.cell 5 rfl
    · rw [World.ownsRow.cellAt y2' leaf (by omega), ← ehv]
      have hlv : leaf < vs.length := by rw [X9.out.1.own.rows.len]; exact hl5
      unfold izV
      rw [List.getElem?_eq_getElem hlv]
      rfl
    · rw [← htm]; simpa using t4
  have E5 : Hid (x.a5 = some ⟨rk, 0, none⟩ ∧ g.rows.lists.length = n5 ∧ leaf < g.rows.lists.length ∧ (ndAt g.tree 0).pz.tm = tm) := ⟨ea5, hz5, hl5, htm⟩
  obtain ⟨l, hl⟩ : ∃ l, izAt g.rows.lists leaf = l := ⟨_, rfl⟩
  rw [hl] at RW9 hm RY ehv
  obtain ⟨m, hml⟩ : ∃ m, l.length = m := ⟨_, rfl⟩
  obtain ⟨n3, hn3⟩ : ∃ n3, g.tree.length = n3 := ⟨_, rfl⟩
  obtain ⟨hv, hhv⟩ : ∃ hv, izV vs leaf = hv := ⟨_, rfl⟩
  rw [hml] at hm RY ehv
  rw [hn3] at RY ht1
  rw [hhv] at RY RW9 ehv
  rw [hz5] at hl5
  have Hl : Hid (izAt g.rows.lists leaf = l ∧ l.length = m ∧ izV vs leaf = hv ∧ hv = .slice ra m rc) := ⟨hl, hml, hhv, ehv⟩
  clear hl hml hn3 hhv ehv hz5 hz1 htm ea5 ea3 hbw
  obtain ⟨n3, rfl⟩ : ∃ z, n3 = z + 1 := ⟨n3 - 1, by omega⟩
  have ht0 : (0 : Int) < (n3 : Int) + 1 := by omega
  refine region_lists (G := Unit) (by kernel_rfl) (by kernel_rfl) (by kernel_rfl) (fun i => if i = 29 then 30 else if i = 30 then 32 else 99) (fun (L : Nat → Bool) (_ : Unit) (X : World) => (L 30 = false → Below W9.heap.size W9 X) ∧ (L 32 = false → (W9.heap.size ≤ X.heap.size ∧ Below b W9 X ∧ ∀ k, hv.ownBlock ≠ some k → k < W9.heap.size → X.heap[k]? = W9.heap[k]?))) (fun i _ X _ X' => i ≠ 30 → i ≠ 32 → Below X.heap.size X X') (fun i y X u => ([fun _ _ u => u = (.pointer (some ⟨B, 0, none⟩)), fun _ _ u => u = (.pointer (some ⟨B, 0, none⟩)), fun _ _ u => u = (.pointer (some ⟨B, 7, none⟩)), fun _ _ u => u = (.pointer (some ⟨B, 8, none⟩)), fun _ _ u => u = (.slice (some ⟨rk, 0, none⟩) n5 x.c5), fun _ _ u => u = (.int .i64 (leaf : Int)), fun _ _ u => u = (.pointer (some ⟨B, 0, none⟩)), fun _ _ u => u = (.pointer (some ⟨B, 0, none⟩)), fun _ _ u => u = (.pointer (some ⟨B, 7, none⟩)), fun _ _ u => u = (.pointer (some ⟨B, 8, none⟩)), fun _ _ u => u = (.slice (some ⟨rk, 0, none⟩) n5 x.c5), fun _ _ u => u = (.int .i64 (leaf : Int)), fun _ _ u => u = (.pointer (some ⟨rk, leaf, none⟩)), fun _ _ u => u = (.slice ra m rc), fun _ _ u => u = (.pointer (some ⟨B, 0, none⟩)), fun _ _ u => u = (.pointer (some ⟨B, 0, none⟩)), fun _ _ u => u = (.pointer (some ⟨B, 12, none⟩)), fun _ _ u => u = (.int .i64 nx), fun _ _ u => u = (.string s), fun _ _ u => u = (.int .i64 (s.size : Int)), fun _ _ u => u = (.pointer (some ⟨B, 0, none⟩)), fun _ _ u => u = (.pointer (some ⟨B, 0, none⟩)), fun _ _ u => u = (.pointer (some ⟨B, 5, none⟩)), fun _ _ u => u = (.slice (some ⟨tk, 0, none⟩) (n3 + 1) x.c3), fun _ _ u => u = (.pointer (some ⟨tk, 0, none⟩)), fun _ _ u => u = (.pointer (some ⟨tk, 1, none⟩)), fun _ _ u => u = (.pointer (some ⟨tk, 4, none⟩)), fun _ _ u => u = (.int .i64 tm), fun _ _ u => u = (.agg #[.int .i64 nx, .int .i64 (s.size : Int), .int .i64 tm]), fun _ X u => ∃ n4, u = .slice (some ⟨n4, 0, none⟩) 1 1 ∧ Boxed X n4 #[.int .i64 nx, .int .i64 (s.size : Int), .int .i64 tm] 52, fun _ X u => (∃ a2 c2, u = .slice a2 (m + 1) c2) ∧ ItRow b X u (l ++ [(⟨nx, (s.size : Int), tm⟩ : It)]) ∧ ∀ k, u.ownBlock = some k → hv.ownBlock = some k ∨ W9.heap.size ≤ k, fun _ _ u => u = (.pointer (some ⟨rk, leaf, none⟩)), fun _ Y _ => ∃ u X, (W9.heap.size ≤ X.heap.size ∧ Below b W9 X ∧ ∀ k, hv.ownBlock ≠ some k → k < W9.heap.size → X.heap[k]? = W9.heap[k]?) ∧ ItRow b X u (l ++ [(⟨nx, (s.size : Int), tm⟩ : It)]) ∧ (∀ k, u.ownBlock = some k → hv.ownBlock = some k ∨ W9.heap.size ≤ k) ∧ Y = X.setCell ⟨rk, leaf, none⟩ u] : List (Unit → World → Value → Prop)).getD i (fun _ _ _ => True) y X u) ?hR () ?h0 ?step ?last
  case hR =>
    intro i j' y y' X X' u hi hj hne hu h1 h2 hp hr
    have hj'' : j' < 33 := hj
    have hcases : j' = 0 ∨ j' = 1 ∨ j' = 2 ∨ j' = 3 ∨ j' = 4 ∨ j' = 5 ∨ j' = 6 ∨ j' = 7 ∨ j' = 8 ∨ j' = 9 ∨ j' = 10 ∨ j' = 11 ∨ j' = 12 ∨ j' = 13 ∨ j' = 14 ∨ j' = 15 ∨ j' = 16 ∨ j' = 17 ∨ j' = 18 ∨ j' = 19 ∨ j' = 20 ∨ j' = 21 ∨ j' = 22 ∨ j' = 23 ∨ j' = 24 ∨ j' = 25 ∨ j' = 26 ∨ j' = 27 ∨ j' = 28 ∨ j' = 29 ∨ j' = 30 ∨ j' = 31 ∨ j' = 32 := by omega
    rcases hcases with rfl | rfl | rfl | rfl | rfl | rfl | rfl | rfl | rfl | rfl | rfl | rfl | rfl | rfl | rfl | rfl | rfl | rfl | rfl | rfl | rfl | rfl | rfl | rfl | rfl | rfl | rfl | rfl | rfl | rfl | rfl | rfl | rfl
    · exact hp
    · exact hp
    · exact hp
    · exact hp
    · exact hp
    · exact hp
    · exact hp
    · exact hp
    · exact hp
    · exact hp
    · exact hp
    · exact hp
    · exact hp
    · exact hp
    · exact hp
    · exact hp
    · exact hp
    · exact hp
    · exact hp
    · exact hp
    · exact hp
    · exact hp
    · exact hp
    · exact hp
    · exact hp
    · exact hp
    · exact hp
    · exact hp
    · exact hp
    · have n30 : i ≠ 30 := by
          rintro rfl
          first | exact absurd rfl hne | exact absurd rfl hu | (exact absurd h1 (by decide +kernel)) | (exact absurd h2 (by decide +kernel))
      have n32 : i ≠ 32 := by
          rintro rfl
          first | exact absurd rfl hne | exact absurd rfl hu | (exact absurd h1 (by decide +kernel)) | (exact absurd h2 (by decide +kernel))
      obtain ⟨n4, e, r⟩ := hp
      exact ⟨n4, e, r.below r.under (hr n30 n32)⟩
    · have n30 : i ≠ 30 := by
          rintro rfl
          first | exact absurd rfl hne | exact absurd rfl hu | (exact absurd h1 (by decide +kernel)) | (exact absurd h2 (by decide +kernel))
      have n32 : i ≠ 32 := by
          rintro rfl
          first | exact absurd rfl hne | exact absurd rfl hu | (exact absurd h1 (by decide +kernel)) | (exact absurd h2 (by decide +kernel))
      exact ⟨hp.1, hp.2.1.carry fun y _ hy => (hr n30 n32).block y hy, hp.2.2⟩
    · exact hp
    · have n30 : i ≠ 30 := by
          rintro rfl
          first | exact absurd rfl hne | exact absurd rfl hu | (exact absurd h1 (by decide +kernel)) | (exact absurd h2 (by decide +kernel))
      have n32 : i ≠ 32 := by
          rintro rfl
          first | exact absurd rfl hne | exact absurd rfl hu | (exact absurd h1 (by decide +kernel)) | (exact absurd h2 (by decide +kernel))
      exfalso
      have hi'' : i < 33 := hi
      have hc2 : i = 0 ∨ i = 1 ∨ i = 2 ∨ i = 3 ∨ i = 4 ∨ i = 5 ∨ i = 6 ∨ i = 7 ∨ i = 8 ∨ i = 9 ∨ i = 10 ∨ i = 11 ∨ i = 12 ∨ i = 13 ∨ i = 14 ∨ i = 15 ∨ i = 16 ∨ i = 17 ∨ i = 18 ∨ i = 19 ∨ i = 20 ∨ i = 21 ∨ i = 22 ∨ i = 23 ∨ i = 24 ∨ i = 25 ∨ i = 26 ∨ i = 27 ∨ i = 28 ∨ i = 29 ∨ i = 30 ∨ i = 31 ∨ i = 32 := by omega
      rcases hc2 with rfl | rfl | rfl | rfl | rfl | rfl | rfl | rfl | rfl | rfl | rfl | rfl | rfl | rfl | rfl | rfl | rfl | rfl | rfl | rfl | rfl | rfl | rfl | rfl | rfl | rfl | rfl | rfl | rfl | rfl | rfl | rfl | rfl
      all_goals first | exact absurd rfl hne | (exact absurd h1 (by decide +kernel))
  case h0 => exact ⟨fun _ => (Below.refl _ _).drew, fun _ => ⟨Nat.le_refl _, (Below.refl _ _).drew, fun _ _ _ => rfl⟩⟩
  case step =>
    intro i o hi ho L a' y X hLi hwt hre hkp hI hp
    have s0' : a'.tmps.getD 0 undef = (.pointer (some ⟨B, 0, none⟩)) := hkp.slot 0 (by kernel_rfl)
    have s0 : a'.tmps[0]?.getD undef = (.pointer (some ⟨B, 0, none⟩)) := by simpa using s0'
    have s1' : a'.tmps.getD 1 undef = (.string s) := hkp.slot 1 (by kernel_rfl)
    have s1 : a'.tmps[1]?.getD undef = (.string s) := by simpa using s1'
    have s9' : a'.tmps.getD 9 undef = (.int .i64 (leaf : Int)) := hkp.slot 9 (by kernel_rfl)
    have s9 : a'.tmps[9]?.getD undef = (.int .i64 (leaf : Int)) := by simpa using s9'
    have hi' : i < 33 := hi
    have hcases : i = 0 ∨ i = 1 ∨ i = 2 ∨ i = 3 ∨ i = 4 ∨ i = 5 ∨ i = 6 ∨ i = 7 ∨ i = 8 ∨ i = 9 ∨ i = 10 ∨ i = 11 ∨ i = 12 ∨ i = 13 ∨ i = 14 ∨ i = 15 ∨ i = 16 ∨ i = 17 ∨ i = 18 ∨ i = 19 ∨ i = 20 ∨ i = 21 ∨ i = 22 ∨ i = 23 ∨ i = 24 ∨ i = 25 ∨ i = 26 ∨ i = 27 ∨ i = 28 ∨ i = 29 ∨ i = 30 ∨ i = 31 ∨ i = 32 := by omega
    rcases hcases with rfl | rfl | rfl | rfl | rfl | rfl | rfl | rfl | rfl | rfl | rfl | rfl | rfl | rfl | rfl | rfl | rfl | rfl | rfl | rfl | rfl | rfl | rfl | rfl | rfl | rfl | rfl | rfl | rfl | rfl | rfl | rfl | rfl
    · cases ho
      refine ⟨wanted_none rfl, Oper.wp_mono (K := fun a'' w'' => a'' = a'.put (some 113) (.pointer (some ⟨B, 0, none⟩)) ∧ w'' = X) ?_ ?_⟩
      · rintro _ _ ⟨rfl, rfl⟩
        exact ⟨_, (), rfl, fun _ _ => Below.refl _ _, ⟨fun h => hI.1 (by simpa using h), fun h => hI.2 (by simpa using h)⟩, fun u hu => hu (fun h => by cases h)⟩
      · unfold Oper.wp
        simp [go_sem, s0]
    · cases ho
      have q0 : a'.tmps[113]?.getD undef = (.pointer (some ⟨B, 0, none⟩)) := by have h2 : a'.tmps.getD 113 undef = (.pointer (some ⟨B, 0, none⟩)) := hp 0 (of_decide_eq_true (by kernel_rfl)) (.inr (by decide)); simpa using h2
      refine ⟨wanted_none rfl, Oper.wp_mono (K := fun a'' w'' => a'' = a'.put (some 114) (.pointer (some ⟨B, 0, none⟩)) ∧ w'' = X) ?_ ?_⟩
      · rintro _ _ ⟨rfl, rfl⟩
        exact ⟨_, (), rfl, fun _ _ => Below.refl _ _, ⟨fun h => hI.1 (by simpa using h), fun h => hI.2 (by simpa using h)⟩, fun u hu => hu (fun h => by cases h)⟩
      · unfold Oper.wp
        simp [go_sem, q0]
    · cases ho
      have q1 : a'.tmps[114]?.getD undef = (.pointer (some ⟨B, 0, none⟩)) := by have h2 : a'.tmps.getD 114 undef = (.pointer (some ⟨B, 0, none⟩)) := hp 1 (of_decide_eq_true (by kernel_rfl)) (.inr (by decide)); simpa using h2
      refine ⟨wanted_none rfl, Oper.wp_mono (K := fun a'' w'' => a'' = a'.put (some 115) (.pointer (some ⟨B, 7, none⟩)) ∧ w'' = X) ?_ ?_⟩
      · rintro _ _ ⟨rfl, rfl⟩
        exact ⟨_, (), rfl, fun _ _ => Below.refl _ _, ⟨fun h => hI.1 (by simpa using h), fun h => hI.2 (by simpa using h)⟩, fun u hu => hu (fun h => by cases h)⟩
      · unfold Oper.wp
        simp [go_sem, q1]
    · cases ho
      have q2 : a'.tmps[115]?.getD undef = (.pointer (some ⟨B, 7, none⟩)) := by have h2 : a'.tmps.getD 115 undef = (.pointer (some ⟨B, 7, none⟩)) := hp 2 (of_decide_eq_true (by kernel_rfl)) (.inr (by decide)); simpa using h2
      refine ⟨wanted_none rfl, Oper.wp_mono (K := fun a'' w'' => a'' = a'.put (some 116) (.pointer (some ⟨B, 8, none⟩)) ∧ w'' = X) ?_ ?_⟩
      · rintro _ _ ⟨rfl, rfl⟩
        exact ⟨_, (), rfl, fun _ _ => Below.refl _ _, ⟨fun h => hI.1 (by simpa using h), fun h => hI.2 (by simpa using h)⟩, fun u hu => hu (fun h => by cases h)⟩
      · unfold Oper.wp
        simp [go_sem, q2]
    · cases ho
      have FX := RY.out X (hI.2 (hre 32 (by decide +kernel)))
      have q3 : a'.tmps[116]?.getD undef = (.pointer (some ⟨B, 8, none⟩)) := by have h2 : a'.tmps.getD 116 undef = (.pointer (some ⟨B, 8, none⟩)) := hp 3 (of_decide_eq_true (by kernel_rfl)) (.inr (by decide)); simpa using h2
      refine ⟨wanted_none rfl, Oper.wp_mono (K := fun a'' w'' => a'' = a'.put (some 117) (.slice (some ⟨rk, 0, none⟩) n5 x.c5) ∧ w'' = X) ?_ ?_⟩
      · rintro _ _ ⟨rfl, rfl⟩
        exact ⟨_, (), rfl, fun _ _ => Below.refl _ _, ⟨fun h => hI.1 (by simpa using h), fun h => hI.2 (by simpa using h)⟩, fun u hu => hu (fun h => by cases h)⟩
      · unfold Oper.wp
        simp [go_sem, q3, FX.1]
    · cases ho
      refine ⟨wanted_none rfl, Oper.wp_mono (K := fun a'' w'' => a'' = a'.put (some 118) (.int .i64 (leaf : Int)) ∧ w'' = X) ?_ ?_⟩
      · rintro _ _ ⟨rfl, rfl⟩
        exact ⟨_, (), rfl, fun _ _ => Below.refl _ _, ⟨fun h => hI.1 (by simpa using h), fun h => hI.2 (by simpa using h)⟩, fun u hu => hu (fun h => by cases h)⟩
      · unfold Oper.wp
        simp [go_sem, s9]
    · cases ho
      refine ⟨wanted_none rfl, Oper.wp_mono (K := fun a'' w'' => a'' = a'.put (some 119) (.pointer (some ⟨B, 0, none⟩)) ∧ w'' = X) ?_ ?_⟩
      · rintro _ _ ⟨rfl, rfl⟩
        exact ⟨_, (), rfl, fun _ _ => Below.refl _ _, ⟨fun h => hI.1 (by simpa using h), fun h => hI.2 (by simpa using h)⟩, fun u hu => hu (fun h => by cases h)⟩
      · unfold Oper.wp
        simp [go_sem, s0]
    · cases ho
      have q6 : a'.tmps[119]?.getD undef = (.pointer (some ⟨B, 0, none⟩)) := by have h2 : a'.tmps.getD 119 undef = (.pointer (some ⟨B, 0, none⟩)) := hp 6 (of_decide_eq_true (by kernel_rfl)) (.inr (by decide)); simpa using h2
      refine ⟨wanted_none rfl, Oper.wp_mono (K := fun a'' w'' => a'' = a'.put (some 120) (.pointer (some ⟨B, 0, none⟩)) ∧ w'' = X) ?_ ?_⟩
      · rintro _ _ ⟨rfl, rfl⟩
        exact ⟨_, (), rfl, fun _ _ => Below.refl _ _, ⟨fun h => hI.1 (by simpa using h), fun h => hI.2 (by simpa using h)⟩, fun u hu => hu (fun h => by cases h)⟩
      · unfold Oper.wp
        simp [go_sem, q6]
    · cases ho
      have q7 : a'.tmps[120]?.getD undef = (.pointer (some ⟨B, 0, none⟩)) := by have h2 : a'.tmps.getD 120 undef = (.pointer (some ⟨B, 0, none⟩)) := hp 7 (of_decide_eq_true (by kernel_rfl)) (.inr (by decide)); simpa using h2
      refine ⟨wanted_none rfl, Oper.wp_mono (K := fun a'' w'' => a'' = a'.put (some 121) (.pointer (some ⟨B, 7, none⟩)) ∧ w'' = X) ?_ ?_⟩
      · rintro _ _ ⟨rfl, rfl⟩
        exact ⟨_, (), rfl, fun _ _ => Below.refl _ _, ⟨fun h => hI.1 (by simpa using h), fun h => hI.2 (by simpa using h)⟩, fun u hu => hu (fun h => by cases h)⟩
      · unfold Oper.wp
        simp [go_sem, q7]
    · cases ho
      have q8 : a'.tmps[121]?.getD undef = (.pointer (some ⟨B, 7, none⟩)) := by have h2 : a'.tmps.getD 121 undef = (.pointer (some ⟨B, 7, none⟩)) := hp 8 (of_decide_eq_true (by kernel_rfl)) (.inr (by decide)); simpa using h2
      refine ⟨wanted_none rfl, Oper.wp_mono (K := fun a'' w'' => a'' = a'.put (some 122) (.pointer (some ⟨B, 8, none⟩)) ∧ w'' = X) ?_ ?_⟩
      · rintro _ _ ⟨rfl, rfl⟩
        exact ⟨_, (), rfl, fun _ _ => Below.refl _ _, ⟨fun h => hI.1 (by simpa using h), fun h => hI.2 (by simpa using h)⟩, fun u hu => hu (fun h => by cases h)⟩
      · unfold Oper.wp
        simp [go_sem, q8]
    · cases ho
      have FX := RY.out X (hI.2 (hre 32 (by decide +kernel)))
      have q9 : a'.tmps[122]?.getD undef = (.pointer (some ⟨B, 8, none⟩)) := by have h2 : a'.tmps.getD 122 undef = (.pointer (some ⟨B, 8, none⟩)) := hp 9 (of_decide_eq_true (by kernel_rfl)) (.inr (by decide)); simpa using h2
      refine ⟨wanted_none rfl, Oper.wp_mono (K := fun a'' w'' => a'' = a'.put (some 123) (.slice (some ⟨rk, 0, none⟩) n5 x.c5) ∧ w'' = X) ?_ ?_⟩
      · rintro _ _ ⟨rfl, rfl⟩
        exact ⟨_, (), rfl, fun _ _ => Below.refl _ _, ⟨fun h => hI.1 (by simpa using h), fun h => hI.2 (by simpa using h)⟩, fun u hu => hu (fun h => by cases h)⟩
      · unfold Oper.wp
        simp [go_sem, q9, FX.1]
    · cases ho
      refine ⟨wanted_none rfl, Oper.wp_mono (K := fun a'' w'' => a'' = a'.put (some 124) (.int .i64 (leaf : Int)) ∧ w'' = X) ?_ ?_⟩
      · rintro _ _ ⟨rfl, rfl⟩
        exact ⟨_, (), rfl, fun _ _ => Below.refl _ _, ⟨fun h => hI.1 (by simpa using h), fun h => hI.2 (by simpa using h)⟩, fun u hu => hu (fun h => by cases h)⟩
      · unfold Oper.wp
        simp [go_sem, s9]
    · cases ho
      have q10 : a'.tmps[123]?.getD undef = (.slice (some ⟨rk, 0, none⟩) n5 x.c5) := by have h2 : a'.tmps.getD 123 undef = (.slice (some ⟨rk, 0, none⟩) n5 x.c5) := hp 10 (of_decide_eq_true (by kernel_rfl)) (.inr (by decide)); simpa using h2
      have q11 : a'.tmps[124]?.getD undef = (.int .i64 (leaf : Int)) := by have h2 : a'.tmps.getD 124 undef = (.int .i64 (leaf : Int)) := hp 11 (of_decide_eq_true (by kernel_rfl)) (.inr (by decide)); simpa using h2
      refine ⟨wanted_none rfl, Oper.wp_mono (K := fun a'' w'' => a'' = a'.put (some 125) (.pointer (some ⟨rk, leaf, none⟩)) ∧ w'' = X) ?_ ?_⟩
      · rintro _ _ ⟨rfl, rfl⟩
        exact ⟨_, (), rfl, fun _ _ => Below.refl _ _, ⟨fun h => hI.1 (by simpa using h), fun h => hI.2 (by simpa using h)⟩, fun u hu => hu (fun h => by cases h)⟩
      · unfold Oper.wp
        simp [go_sem, q10, q11, hl5]
    · cases ho
      have FX := RY.out X (hI.2 (hre 32 (by decide +kernel)))
      have q12 : a'.tmps[125]?.getD undef = (.pointer (some ⟨rk, leaf, none⟩)) := by have h2 : a'.tmps.getD 125 undef = (.pointer (some ⟨rk, leaf, none⟩)) := hp 12 (of_decide_eq_true (by kernel_rfl)) (.inr (by decide)); simpa using h2
      refine ⟨wanted_none rfl, Oper.wp_mono (K := fun a'' w'' => a'' = a'.put (some 126) (.slice ra m rc) ∧ w'' = X) ?_ ?_⟩
      · rintro _ _ ⟨rfl, rfl⟩
        exact ⟨_, (), rfl, fun _ _ => Below.refl _ _, ⟨fun h => hI.1 (by simpa using h), fun h => hI.2 (by simpa using h)⟩, fun u hu => hu (fun h => by cases h)⟩
      · unfold Oper.wp
        simp [go_sem, q12, FX.2.2.2.1]
    · cases ho
      refine ⟨wanted_none rfl, Oper.wp_mono (K := fun a'' w'' => a'' = a'.put (some 127) (.pointer (some ⟨B, 0, none⟩)) ∧ w'' = X) ?_ ?_⟩
      · rintro _ _ ⟨rfl, rfl⟩
        exact ⟨_, (), rfl, fun _ _ => Below.refl _ _, ⟨fun h => hI.1 (by simpa using h), fun h => hI.2 (by simpa using h)⟩, fun u hu => hu (fun h => by cases h)⟩
      · unfold Oper.wp
        simp [go_sem, s0]
    · cases ho
      have q14 : a'.tmps[127]?.getD undef = (.pointer (some ⟨B, 0, none⟩)) := by have h2 : a'.tmps.getD 127 undef = (.pointer (some ⟨B, 0, none⟩)) := hp 14 (of_decide_eq_true (by kernel_rfl)) (.inr (by decide)); simpa using h2
      refine ⟨wanted_none rfl, Oper.wp_mono (K := fun a'' w'' => a'' = a'.put (some 128) (.pointer (some ⟨B, 0, none⟩)) ∧ w'' = X) ?_ ?_⟩
      · rintro _ _ ⟨rfl, rfl⟩
        exact ⟨_, (), rfl, fun _ _ => Below.refl _ _, ⟨fun h => hI.1 (by simpa using h), fun h => hI.2 (by simpa using h)⟩, fun u hu => hu (fun h => by cases h)⟩
      · unfold Oper.wp
        simp [go_sem, q14]
    · cases ho
      have q15 : a'.tmps[128]?.getD undef = (.pointer (some ⟨B, 0, none⟩)) := by have h2 : a'.tmps.getD 128 undef = (.pointer (some ⟨B, 0, none⟩)) := hp 15 (of_decide_eq_true (by kernel_rfl)) (.inr (by decide)); simpa using h2
      refine ⟨wanted_none rfl, Oper.wp_mono (K := fun a'' w'' => a'' = a'.put (some 129) (.pointer (some ⟨B, 12, none⟩)) ∧ w'' = X) ?_ ?_⟩
      · rintro _ _ ⟨rfl, rfl⟩
        exact ⟨_, (), rfl, fun _ _ => Below.refl _ _, ⟨fun h => hI.1 (by simpa using h), fun h => hI.2 (by simpa using h)⟩, fun u hu => hu (fun h => by cases h)⟩
      · unfold Oper.wp
        simp [go_sem, q15]
    · cases ho
      have FX := RY.out X (hI.2 (hre 32 (by decide +kernel)))
      have q16 : a'.tmps[129]?.getD undef = (.pointer (some ⟨B, 12, none⟩)) := by have h2 : a'.tmps.getD 129 undef = (.pointer (some ⟨B, 12, none⟩)) := hp 16 (of_decide_eq_true (by kernel_rfl)) (.inr (by decide)); simpa using h2
      refine ⟨wanted_none rfl, Oper.wp_mono (K := fun a'' w'' => a'' = a'.put (some 130) (.int .i64 nx) ∧ w'' = X) ?_ ?_⟩
      · rintro _ _ ⟨rfl, rfl⟩
        exact ⟨_, (), rfl, fun _ _ => Below.refl _ _, ⟨fun h => hI.1 (by simpa using h), fun h => hI.2 (by simpa using h)⟩, fun u hu => hu (fun h => by cases h)⟩
      · unfold Oper.wp
        simp [go_sem, q16, FX.2.1]
    · cases ho
      refine ⟨wanted_none rfl, Oper.wp_mono (K := fun a'' w'' => a'' = a'.put (some 131) (.string s) ∧ w'' = X) ?_ ?_⟩
      · rintro _ _ ⟨rfl, rfl⟩
        exact ⟨_, (), rfl, fun _ _ => Below.refl _ _, ⟨fun h => hI.1 (by simpa using h), fun h => hI.2 (by simpa using h)⟩, fun u hu => hu (fun h => by cases h)⟩
      · unfold Oper.wp
        simp [go_sem, s1]
    · cases ho
      have q18 : a'.tmps[131]?.getD undef = (.string s) := by have h2 : a'.tmps.getD 131 undef = (.string s) := hp 18 (of_decide_eq_true (by kernel_rfl)) (.inr (by decide)); simpa using h2
      refine ⟨wanted_none rfl, Oper.wp_mono (K := fun a'' w'' => a'' = a'.put (some 132) (.int .i64 (s.size : Int)) ∧ w'' = X) ?_ ?_⟩
      · rintro _ _ ⟨rfl, rfl⟩
        exact ⟨_, (), rfl, fun _ _ => Below.refl _ _, ⟨fun h => hI.1 (by simpa using h), fun h => hI.2 (by simpa using h)⟩, fun u hu => hu (fun h => by cases h)⟩
      · unfold Oper.wp
        simp [go_sem, q18]
    · cases ho
      refine ⟨wanted_none rfl, Oper.wp_mono (K := fun a'' w'' => a'' = a'.put (some 133) (.pointer (some ⟨B, 0, none⟩)) ∧ w'' = X) ?_ ?_⟩
      · rintro _ _ ⟨rfl, rfl⟩
        exact ⟨_, (), rfl, fun _ _ => Below.refl _ _, ⟨fun h => hI.1 (by simpa using h), fun h => hI.2 (by simpa using h)⟩, fun u hu => hu (fun h => by cases h)⟩
      · unfold Oper.wp
        simp [go_sem, s0]
    · cases ho
      have q20 : a'.tmps[133]?.getD undef = (.pointer (some ⟨B, 0, none⟩)) := by have h2 : a'.tmps.getD 133 undef = (.pointer (some ⟨B, 0, none⟩)) := hp 20 (of_decide_eq_true (by kernel_rfl)) (.inr (by decide)); simpa using h2
      refine ⟨wanted_none rfl, Oper.wp_mono (K := fun a'' w'' => a'' = a'.put (some 134) (.pointer (some ⟨B, 0, none⟩)) ∧ w'' = X) ?_ ?_⟩
      · rintro _ _ ⟨rfl, rfl⟩
        exact ⟨_, (), rfl, fun _ _ => Below.refl _ _, ⟨fun h => hI.1 (by simpa using h), fun h => hI.2 (by simpa using h)⟩, fun u hu => hu (fun h => by cases h)⟩
      · unfold Oper.wp
        simp [go_sem, q20]
    · cases ho
      have q21 : a'.tmps[134]?.getD undef = (.pointer (some ⟨B, 0, none⟩)) := by have h2 : a'.tmps.getD 134 undef = (.pointer (some ⟨B, 0, none⟩)) := hp 21 (of_decide_eq_true (by kernel_rfl)) (.inr (by decide)); simpa using h2
      refine ⟨wanted_none rfl, Oper.wp_mono (K := fun a'' w'' => a'' = a'.put (some 135) (.pointer (some ⟨B, 5, none⟩)) ∧ w'' = X) ?_ ?_⟩
      · rintro _ _ ⟨rfl, rfl⟩
        exact ⟨_, (), rfl, fun _ _ => Below.refl _ _, ⟨fun h => hI.1 (by simpa using h), fun h => hI.2 (by simpa using h)⟩, fun u hu => hu (fun h => by cases h)⟩
      · unfold Oper.wp
        simp [go_sem, q21]
    · cases ho
      have FX := RY.out X (hI.2 (hre 32 (by decide +kernel)))
      have q22 : a'.tmps[135]?.getD undef = (.pointer (some ⟨B, 5, none⟩)) := by have h2 : a'.tmps.getD 135 undef = (.pointer (some ⟨B, 5, none⟩)) := hp 22 (of_decide_eq_true (by kernel_rfl)) (.inr (by decide)); simpa using h2
      refine ⟨wanted_none rfl, Oper.wp_mono (K := fun a'' w'' => a'' = a'.put (some 136) (.slice (some ⟨tk, 0, none⟩) (n3 + 1) x.c3) ∧ w'' = X) ?_ ?_⟩
      · rintro _ _ ⟨rfl, rfl⟩
        exact ⟨_, (), rfl, fun _ _ => Below.refl _ _, ⟨fun h => hI.1 (by simpa using h), fun h => hI.2 (by simpa using h)⟩, fun u hu => hu (fun h => by cases h)⟩
      · unfold Oper.wp
        simp [go_sem, q22, FX.2.2.1]
    · cases ho
      have q23 : a'.tmps[136]?.getD undef = (.slice (some ⟨tk, 0, none⟩) (n3 + 1) x.c3) := by have h2 : a'.tmps.getD 136 undef = (.slice (some ⟨tk, 0, none⟩) (n3 + 1) x.c3) := hp 23 (of_decide_eq_true (by kernel_rfl)) (.inr (by decide)); simpa using h2
      refine ⟨wanted_none rfl, Oper.wp_mono (K := fun a'' w'' => a'' = a'.put (some 137) (.pointer (some ⟨tk, 0, none⟩)) ∧ w'' = X) ?_ ?_⟩
      · rintro _ _ ⟨rfl, rfl⟩
        exact ⟨_, (), rfl, fun _ _ => Below.refl _ _, ⟨fun h => hI.1 (by simpa using h), fun h => hI.2 (by simpa using h)⟩, fun u hu => hu (fun h => by cases h)⟩
      · unfold Oper.wp
        simp [go_sem, q23, ht0]
    · cases ho
      have q24 : a'.tmps[137]?.getD undef = (.pointer (some ⟨tk, 0, none⟩)) := by have h2 : a'.tmps.getD 137 undef = (.pointer (some ⟨tk, 0, none⟩)) := hp 24 (of_decide_eq_true (by kernel_rfl)) (.inr (by decide)); simpa using h2
      refine ⟨wanted_none rfl, Oper.wp_mono (K := fun a'' w'' => a'' = a'.put (some 138) (.pointer (some ⟨tk, 1, none⟩)) ∧ w'' = X) ?_ ?_⟩
      · rintro _ _ ⟨rfl, rfl⟩
        exact ⟨_, (), rfl, fun _ _ => Below.refl _ _, ⟨fun h => hI.1 (by simpa using h), fun h => hI.2 (by simpa using h)⟩, fun u hu => hu (fun h => by cases h)⟩
      · unfold Oper.wp
        simp [go_sem, q24]
    · cases ho
      have q25 : a'.tmps[138]?.getD undef = (.pointer (some ⟨tk, 1, none⟩)) := by have h2 : a'.tmps.getD 138 undef = (.pointer (some ⟨tk, 1, none⟩)) := hp 25 (of_decide_eq_true (by kernel_rfl)) (.inr (by decide)); simpa using h2
      refine ⟨wanted_none rfl, Oper.wp_mono (K := fun a'' w'' => a'' = a'.put (some 139) (.pointer (some ⟨tk, 4, none⟩)) ∧ w'' = X) ?_ ?_⟩
      · rintro _ _ ⟨rfl, rfl⟩
        exact ⟨_, (), rfl, fun _ _ => Below.refl _ _, ⟨fun h => hI.1 (by simpa using h), fun h => hI.2 (by simpa using h)⟩, fun u hu => hu (fun h => by cases h)⟩
      · unfold Oper.wp
        simp [go_sem, q25]
    · cases ho
      have FX := RY.out X (hI.2 (hre 32 (by decide +kernel)))
      have q26 : a'.tmps[139]?.getD undef = (.pointer (some ⟨tk, 4, none⟩)) := by have h2 : a'.tmps.getD 139 undef = (.pointer (some ⟨tk, 4, none⟩)) := hp 26 (of_decide_eq_true (by kernel_rfl)) (.inr (by decide)); simpa using h2
      refine ⟨wanted_none rfl, Oper.wp_mono (K := fun a'' w'' => a'' = a'.put (some 140) (.int .i64 tm) ∧ w'' = X) ?_ ?_⟩
      · rintro _ _ ⟨rfl, rfl⟩
        exact ⟨_, (), rfl, fun _ _ => Below.refl _ _, ⟨fun h => hI.1 (by simpa using h), fun h => hI.2 (by simpa using h)⟩, fun u hu => hu (fun h => by cases h)⟩
      · unfold Oper.wp
        simp [go_sem, q26, FX.2.2.2.2.1]
    · cases ho
      have q17 : a'.tmps[130]?.getD undef = (.int .i64 nx) := by have h2 : a'.tmps.getD 130 undef = (.int .i64 nx) := hp 17 (of_decide_eq_true (by kernel_rfl)) (.inr (by decide)); simpa using h2
      have q19 : a'.tmps[132]?.getD undef = (.int .i64 (s.size : Int)) := by have h2 : a'.tmps.getD 132 undef = (.int .i64 (s.size : Int)) := hp 19 (of_decide_eq_true (by kernel_rfl)) (.inr (by decide)); simpa using h2
      have q27 : a'.tmps[140]?.getD undef = (.int .i64 tm) := by have h2 : a'.tmps.getD 140 undef = (.int .i64 tm) := hp 27 (of_decide_eq_true (by kernel_rfl)) (.inr (by decide)); simpa using h2
      refine ⟨wanted_none rfl, Oper.wp_mono (K := fun a'' w'' => a'' = a'.put (some 141) (.agg #[.int .i64 nx, .int .i64 (s.size : Int), .int .i64 tm]) ∧ w'' = X) ?_ ?_⟩
      · rintro _ _ ⟨rfl, rfl⟩
        exact ⟨_, (), rfl, fun _ _ => Below.refl _ _, ⟨fun h => hI.1 (by simpa using h), fun h => hI.2 (by simpa using h)⟩, fun u hu => hu (fun h => by cases h)⟩
      · unfold Oper.wp
        simp [go_sem, q17, q19, q27]
    · cases ho
      have n30 := hre 30 (by decide +kernel)
      have n32 := hre 32 (by decide +kernel)
      have hB := hI.1 n30
      have hO := hI.2 n32
      have q28 : a'.tmps[141]?.getD undef = (.agg #[.int .i64 nx, .int .i64 (s.size : Int), .int .i64 tm]) := by have h2 : a'.tmps.getD 141 undef = (.agg #[.int .i64 nx, .int .i64 (s.size : Int), .int .i64 tm]) := hp 28 (of_decide_eq_true (by kernel_rfl)) (.inr (by decide)); simpa using h2
      refine ⟨wanted_none rfl, Oper.wp_mono (K := fun a'' w'' => a'' = a'.put (some 142) (.slice (some ⟨X.heap.size, 0, none⟩) 1 1) ∧ w'' = X.alloc (.cells #[.int .i64 nx, .int .i64 (s.size : Int), .int .i64 tm] 52)) ?_ ?_⟩
      · rintro _ _ ⟨rfl, rfl⟩
        have al : Below X.heap.size X (X.alloc (.cells #[.int .i64 nx, .int .i64 (s.size : Int), .int .i64 tm] 52)) := (Below.refl _ _).alloc (Nat.le_refl _) _
        exact ⟨_, (), rfl, fun _ _ => al, ⟨fun _ => hB.trans (al.mono hO.1), fun _ => ⟨Nat.le_trans hO.1 al.size, hO.2.1.trans (al.mono (Nat.le_trans X9.out.2.2 hO.1)), fun k h1 h2 => (al.block k (Nat.lt_of_lt_of_le h2 hO.1)).trans (hO.2.2 k h1 h2)⟩⟩, fun u hu => ⟨X.heap.size, hu (fun h => by cases h), Boxed.new _ _ _⟩⟩
      · unfold Oper.wp
        simp [go_sem, q28]
    · cases ho
      have n32 := hre 32 (by decide +kernel)
      have hB := hI.1 hLi
      have hO := hI.2 n32
      have q13 : a'.tmps[126]?.getD undef = (.slice ra m rc) := by have h2 : a'.tmps.getD 126 undef = (.slice ra m rc) := hp 13 (of_decide_eq_true (by kernel_rfl)) (.inr (by decide)); simpa using h2
      obtain ⟨n4, e29, h29⟩ := hp 29 (of_decide_eq_true (by kernel_rfl)) (.inl rfl)
      have e29 : a'.tmps.getD 142 undef = .slice (some ⟨n4, 0, none⟩) 1 1 := e29
      have hrow : ItRow b X (.slice ra m rc) l := by rw [← Hl.out.2.2.2]; exact RW9.out.carry fun k _ hk => hB.block k hk
      refine ⟨wanted_none rfl, it_op_where (.tmp 126) (.tmp 142) rfl b (.slice ra m rc) l (⟨nx, (s.size : Int), tm⟩ : It) (by simpa [Act.eval] using q13) hrow (by simpa [Act.eval] using e29) h29 (by rw [Hl.out.2.1]; exact hm) (Nat.le_trans X9.out.2.2 hO.1) ?_⟩
      intro v' z r1 r2 r3 r4
      obtain ⟨a3, c3, ev⟩ := r1.shape
      rw [List.length_append, List.length_singleton, Hl.out.2.1] at ev
      rw [← Hl.out.2.2.2] at r3 r4
      exact ⟨_, (), rfl, fun n => absurd rfl n, ⟨fun h => by simp at h, fun _ => ⟨Nat.le_trans hO.1 r2.size, hO.2.1.trans r2, fun k h1 h2 => (r3 k h1 (Nat.lt_of_lt_of_le h2 hO.1)).trans (hO.2.2 k h1 h2)⟩⟩, fun u hu => by rw [hu (fun h => by cases h)]; exact ⟨⟨a3, c3, ev⟩, r1, fun k hk => (r4 k hk).imp id fun h => Nat.le_trans hO.1 h⟩⟩
    · cases ho
      have q4 : a'.tmps[117]?.getD undef = (.slice (some ⟨rk, 0, none⟩) n5 x.c5) := by have h2 : a'.tmps.getD 117 undef = (.slice (some ⟨rk, 0, none⟩) n5 x.c5) := hp 4 (of_decide_eq_true (by kernel_rfl)) (.inr (by decide)); simpa using h2
      have q5 : a'.tmps[118]?.getD undef = (.int .i64 (leaf : Int)) := by have h2 : a'.tmps.getD 118 undef = (.int .i64 (leaf : Int)) := hp 5 (of_decide_eq_true (by kernel_rfl)) (.inr (by decide)); simpa using h2
      refine ⟨wanted_none rfl, Oper.wp_mono (K := fun a'' w'' => a'' = a'.put (some 144) (.pointer (some ⟨rk, leaf, none⟩)) ∧ w'' = X) ?_ ?_⟩
      · rintro _ _ ⟨rfl, rfl⟩
        exact ⟨_, (), rfl, fun _ _ => Below.refl _ _, ⟨fun h => hI.1 (by simpa using h), fun h => hI.2 (by simpa using h)⟩, fun u hu => hu (fun h => by cases h)⟩
      · unfold Oper.wp
        simp [go_sem, q4, q5, hl5]
    · cases ho
      have hO := hI.2 hLi
      have FX := RY.out X hO
      have q31 : a'.tmps[144]?.getD undef = (.pointer (some ⟨rk, leaf, none⟩)) := by have h2 : a'.tmps.getD 144 undef = (.pointer (some ⟨rk, leaf, none⟩)) := hp 31 (of_decide_eq_true (by kernel_rfl)) (.inr (by decide)); simpa using h2
      obtain ⟨⟨a2, c2, e30⟩, h30, h30w⟩ := hp 30 (of_decide_eq_true (by kernel_rfl)) (.inl rfl)
      have e30 : a'.tmps.getD 143 undef = .slice a2 (m + 1) c2 := e30
      have h30r : ItRow b X (.slice a2 (m + 1) c2) (l ++ [(⟨nx, (s.size : Int), tm⟩ : It)]) := by rw [← e30]; exact h30
      have h30v : ∀ k, (Value.slice a2 (m + 1) c2).ownBlock = some k → hv.ownBlock = some k ∨ W9.heap.size ≤ k := by rw [← e30]; exact h30w
      have e30' : a'.tmps[143]?.getD undef = .slice a2 (m + 1) c2 := by simpa using e30
      have fc := FX.2.2.2.1
      have fi := FX.2.2.2.2.2
      refine ⟨wanted_none rfl, Oper.wp_mono (K := fun a'' w'' => a'' = a'.put none undef ∧ w'' = X.setCell ⟨rk, leaf, none⟩ (.slice a2 (m + 1) c2)) ?_ ?_⟩
      · rintro _ _ ⟨rfl, rfl⟩
        exact ⟨undef, (), rfl, fun _ n => absurd rfl n, ⟨fun h => absurd (h.symm.trans (by simpa using hwt 30 (by decide +kernel))) (by decide), fun h => by simp at h⟩, fun u hu => ⟨.slice a2 (m + 1) c2, X, hO, h30r, h30v, rfl⟩⟩
      · unfold Oper.wp
        simp [go_sem, q31, e30', fc, fi]
  case last =>
  intro L a' y Y hall hkp hI hp
  obtain ⟨u, X, r1, r2, r3, r4⟩ := hp 32 (by decide) (by decide)
  obtain ⟨e1, e2, e3, e4⟩ := Hl.out
  have FR : Hid (GtB b B Y x (vs.set leaf u) rs { g with draw := nd, rows := ⟨g.rows.most, g.rows.lists.set leaf (l ++ [(⟨nx, (s.size : Int), tm⟩ : It)])⟩ } ∧ Below b w Y ∧ b ≤ Y.heap.size) := by
    rw [← e3] at r1 r3
    have hb1 : b ≤ X.heap.size := Nat.le_trans X9.out.2.2 r1.1
    have hrk : b ≤ rk := (World.ownsRow.lt X9.out.1.own.rows.outer rk (by rw [E5.out.1]; rfl)).1
    rw [r4]
    refine ⟨X9.out.1.putRow E5.out.2.2.1 r1.2.2 r2 r3 E5.out.1, (X9.out.2.1.trans r1.2.1).setCell hrk _, ?_⟩
    have e9 : (X.setCell ⟨rk, leaf, none⟩ u).heap.size = X.heap.size := by simp [World.setCell]
    rw [e9]
    exact hb1
  clear e1 e2 e3 e4
  have ha := hkp.pick [true, true, true, true, true, true, true, true, true, true, true, true, true, true, true, true, true, true, true, true, true, true, true, true, true, true, true, true, true, true, true, true, true, true, true, true, true, true, true, true, true, true, true, true, true, true, true, true, true, true, true, true, true, true, true, true, true, true, true, true, true, true, true, true, true, true, true, true, true, true, true, true, true, true, true, true, true, true, true, true, true, true, true, true, true, true, true, true, true, true, true, true, true, true, true, true, true, true, true, true, true, true, true, true, true, true, true, true, true, true, true, true, true, false, false, false, false, false, false, false, false, false, false, false, false, false, false, false, false, false, false, false, false, false, false, false, false, false, false, false, false, false, false, false, false, true, true, true, true, true, true, true, true, true, true, true, true, true, true, true, true, true, true, true, true, true, true, true, true, true, true, true, true, true, true, true, true, true, true, true, true, true] (by kernel_rfl)
  simp only [pickS] at ha
  clear hp hkp hI hall r1 r2 r3 r4 RY X9 RW9
  generalize a'.tmps.getD 113 undef = y113 at ha
  generalize a'.tmps.getD 114 undef = y114 at ha
  generalize a'.tmps.getD 115 undef = y115 at ha
  generalize a'.tmps.getD 116 undef = y116 at ha
  generalize a'.tmps.getD 117 undef = y117 at ha
  generalize a'.tmps.getD 118 undef = y118 at ha
  generalize a'.tmps.getD 119 undef = y119 at ha
  generalize a'.tmps.getD 120 undef = y120 at ha
  generalize a'.tmps.getD 121 undef = y121 at ha
  generalize a'.tmps.getD 122 undef = y122 at ha
  generalize a'.tmps.getD 123 undef = y123 at ha
  generalize a'.tmps.getD 124 undef = y124 at ha
  generalize a'.tmps.getD 125 undef = y125 at ha
  generalize a'.tmps.getD 126 undef = y126 at ha
  generalize a'.tmps.getD 127 undef = y127 at ha
  generalize a'.tmps.getD 128 undef = y128 at ha
  generalize a'.tmps.getD 129 undef = y129 at ha
  generalize a'.tmps.getD 130 undef = y130 at ha
  generalize a'.tmps.getD 131 undef = y131 at ha
  generalize a'.tmps.getD 132 undef = y132 at ha
  generalize a'.tmps.getD 133 undef = y133 at ha
  generalize a'.tmps.getD 134 undef = y134 at ha
  generalize a'.tmps.getD 135 undef = y135 at ha
  generalize a'.tmps.getD 136 undef = y136 at ha
  generalize a'.tmps.getD 137 undef = y137 at ha
  generalize a'.tmps.getD 138 undef = y138 at ha
  generalize a'.tmps.getD 139 undef = y139 at ha
  generalize a'.tmps.getD 140 undef = y140 at ha
  generalize a'.tmps.getD 141 undef = y141 at ha
  generalize a'.tmps.getD 142 undef = y142 at ha
  generalize a'.tmps.getD 143 undef = y143 at ha
  generalize a'.tmps.getD 144 undef = y144 at ha
  rw [ha]
  clear ha
  obtain ⟨vs2, hvs2⟩ : ∃ z, vs.set leaf u = z := ⟨_, rfl⟩
  obtain ⟨G2, hG2⟩ : ∃ z : Gt, { g with draw := nd, rows := ⟨g.rows.most, g.rows.lists.set leaf (l ++ [(⟨nx, (s.size : Int), tm⟩ : It)])⟩ } = z := ⟨_, rfl⟩
  rw [hvs2, hG2] at FR
  have hf2 : G2.fair = g.fair := by rw [← hG2]
  have hn2 : G2.next = nx := by rw [← hG2]; exact Z.out.1
  have hl7 : leaf < G2.fair.flows.length := by rw [hf2]; have := Hk.out.2.2.2.1; omega
  obtain ⟨sizes, hsz2⟩ : ∃ z, (fwAt G2.fair.flows leaf).sizes = z := ⟨_, rfl⟩
  obtain ⟨ea7, ehd⟩ := EA7.out
  have hhn : sizes.length = hn := by rw [← hsz2, hf2]; exact Z.out.2.2.2.2.2
  have ehd2 : (fwrAt rs leaf).hd = .slice ha hn hc := by rw [ehd, Z.out.2.2.2.2.2]
  have hsx : hn ≤ 40 := by
    have h1 := (Gt.head_iff.1 (Gt.ok_iff.1 Hok.out).1).2.2.2.2.2.2.2.2.1
    rw [← hhn, ← hsz2, hf2]
    exact (Fw.ok_iff.1 (Fs.ok_at h1 (by rw [← hf2]; exact hl7))).2.2.1
  have R2 : Hid (IRow b Y (.slice ha hn hc) sizes) := by
    have := FR.out.1.own.fair.row leaf hl7
    rw [ehd2, hsz2] at this
    exact this
  have cF2 : Y.cell? ⟨fk, leaf * 3 + 2, none⟩ = some (.slice ha hn hc) := by
    have F1 := FR.out.1.own.fair
    have F2 : Y.ownsRow b 116 3 (.slice (some ⟨fk, 0, none⟩) G2.fair.flows.length x.c7) G2.fair.flows.length (fwcells rs) := by rw [← ea7]; exact F1.outer
    rw [World.ownsRow.cellAt F2 (leaf * 3 + 2) (by omega), (fwcells_get rs leaf (by rw [F1.len]; exact hl7)).2.2, ehd2]
  have HG2 : Hid ({ g with draw := nd, rows := ⟨g.rows.most, g.rows.lists.set leaf (l ++ [(⟨nx, (s.size : Int), tm⟩ : It)])⟩ } = G2 ∧ G2.fair = g.fair ∧ G2.next = nx ∧ leaf < G2.fair.flows.length ∧ (fwAt G2.fair.flows leaf).sizes = sizes ∧ sizes.length = hn ∧ (fwrAt rs leaf).hd = .slice ha hn hc ∧ x.a7 = some ⟨fk, 0, none⟩) := ⟨hG2, hf2, hn2, hl7, hsz2, hhn, ehd2, ea7⟩
  have cFin : Y.cell? ⟨fk, leaf * 3 + 1, none⟩ = some (.int .i64 (fwAt G2.fair.flows leaf).finish) := by
    have F1 := FR.out.1.own.fair
    have F2 : Y.ownsRow b 116 3 (.slice (some ⟨fk, 0, none⟩) G2.fair.flows.length x.c7) G2.fair.flows.length (fwcells rs) := by rw [← ea7]; exact F1.outer
    rw [World.ownsRow.cellAt F2 (leaf * 3 + 1) (by omega), (fwcells_get rs leaf (by rw [F1.len]; exact hl7)).2.1, (F1.num leaf hl7).2]
  have iFin : Y.frozen? ⟨fk, leaf * 3 + 1, none⟩ = false := by
    have F1 := FR.out.1.own.fair
    have F2 : Y.ownsRow b 116 3 (.slice (some ⟨fk, 0, none⟩) G2.fair.flows.length x.c7) G2.fair.flows.length (fwcells rs) := by rw [← ea7]; exact F1.outer
    exact World.ownsRow.frozenAt F2 _
  have lFin : fk < Y.heap.size := by
    have F1 := FR.out.1.own.fair
    have F2 : Y.ownsRow b 116 3 (.slice (some ⟨fk, 0, none⟩) G2.fair.flows.length x.c7) G2.fair.flows.length (fwcells rs) := by rw [← ea7]; exact F1.outer
    exact (World.ownsRow.lt F2 fk rfl).2
  clear hG2 hf2 hn2 hl7 hsz2 hhn ehd2 ea7 ehd hvs2 EA7
  obtain ⟨ff, hff⟩ : ∃ z, (fwAt G2.fair.flows leaf).finish = z := ⟨_, rfl⟩
  rw [hff] at cFin
  obtain ⟨wt, hwt⟩ : ∃ z, (fwAt G2.fair.flows leaf).weight = z := ⟨_, rfl⟩
  obtain ⟨nw, hnw⟩ : ∃ z, G2.fair.now = z := ⟨_, rfl⟩
  have cNow : Y.cell? ⟨B, 10, none⟩ = some (.int .i64 nw) := by rw [← hnw]; exact FR.out.1.box.cell 10 rfl
  obtain ⟨f3, hf3⟩ : ∃ z, (if hn = 0 then max ff nw else ff) = z := ⟨_, rfl⟩
  obtain ⟨G3, hG3⟩ : ∃ z : Gt, { G2 with fair := ⟨nw, G2.fair.flows.set leaf ⟨wt, f3, sizes⟩⟩ } = z := ⟨_, rfl⟩
  have HG3 : Hid ({ G2 with fair := ⟨nw, G2.fair.flows.set leaf ⟨wt, f3, sizes⟩⟩ } = G3 ∧ (fwAt G2.fair.flows leaf).finish = ff ∧ (fwAt G2.fair.flows leaf).weight = wt ∧ G2.fair.now = nw ∧ (if hn = 0 then max ff nw else ff) = f3) := ⟨hG3, hff, hwt, hnw, hf3⟩
  clear hff hwt hnw hf3 hG3
  have Mx := fun w => specMx ff nw w
  go_upto_if 150 with fail
  go_cut [] (fun wc => Hid (∃ rs', GtB b B wc x vs2 rs' G3 ∧ Below b w wc ∧ b ≤ wc.heap.size ∧ (fwrAt rs' leaf).hd = .slice ha hn hc))
  case first =>
    by_cases h0 : hn = 0
    · obtain ⟨e3, eff, ewt, enw, ef3⟩ := HG3.out
      rw [if_pos h0] at ef3
      have X9a : Hid (∀ y, y = Y.drew → GtB b B (y.setCell ⟨fk, leaf * 3 + 1, none⟩ (.int .i64 f3)) x vs2 (rs.set leaf ⟨(fwrAt rs leaf).weight, f3, (fwrAt rs leaf).hd⟩) G3 ∧ Below b w (y.setCell ⟨fk, leaf * 3 + 1, none⟩ (.int .i64 f3)) ∧ b ≤ (y.setCell ⟨fk, leaf * 3 + 1, none⟩ (.int .i64 f3)).heap.size ∧ (fwrAt (rs.set leaf ⟨(fwrAt rs leaf).weight, f3, (fwrAt rs leaf).hd⟩) leaf).hd = .slice ha hn hc) := fun y hy => by
        obtain ⟨z1, z2, z3, z4, z5, z6, z7, z8⟩ := HG2.out
        have q : Below Y.heap.size Y y := by rw [hy]; exact (Below.refl _ _).drew
        have hb := (FR.out.1.below q).putFinish z4 z8 f3
        have F2 : Y.ownsRow b 116 3 (.slice (some ⟨fk, 0, none⟩) G2.fair.flows.length x.c7) G2.fair.flows.length (fwcells rs) := by rw [← z8]; exact FR.out.1.own.fair.outer
        rw [enw, ewt, z5, e3] at hb
        refine ⟨hb, (FR.out.2.1.trans (q.mono FR.out.2.2)).setCell (World.ownsRow.lt F2 fk rfl).1 _, ?_, ?_⟩
        · have : (y.setCell ⟨fk, leaf * 3 + 1, none⟩ (.int .i64 f3)).heap.size = y.heap.size := by simp [World.setCell]
          rw [this]
          exact Nat.le_trans FR.out.2.2 q.size
        · rw [fwr_hd (by rw [FR.out.1.own.fair.len]; exact z4), if_pos rfl]
          exact z7
      rw [ef3] at Mx
      have Mx' : Hid _ := Mx
      clear Mx e3 eff ewt enw ef3
      subst h0
      go_upto_region 22 with fail
      go_region_law (refine stepCall rfl 82 rfl #[.int .i64 ff, .int .i64 nw] (by kernel_rfl) (Mx'.out _) ?_; rintro e wE ⟨rfl, hwE⟩; have X9 : Hid _ := X9a.out wE hwE; have y1 : wE.cell? ⟨fk, leaf * 3 + 1, none⟩ = some (.int .i64 ff) := (by rw [hwE]; exact cFin); have y2 : wE.frozen? ⟨fk, leaf * 3 + 1, none⟩ = false := (by rw [hwE]; exact iFin); have y3 : fk < wE.heap.size := (by rw [hwE]; exact lFin); clear hwE)
      all_goals (go_wp2_with fail; go_meet; exact ⟨_, X9.out⟩)
    · have d5 : ((hn : Int) == 0) = false := by simpa using h0
      have X9 : Hid (GtB b B Y x vs2 rs G3 ∧ Below b w Y ∧ b ≤ Y.heap.size ∧ (fwrAt rs leaf).hd = .slice ha hn hc) := by
        obtain ⟨e3, eff, ewt, enw, ef3⟩ := HG3.out
        obtain ⟨z1, z2, z3, z4, z5, z6, z7, z8⟩ := HG2.out
        rw [if_neg h0] at ef3
        have e : G3 = G2 := by
          rw [← e3, ← enw, ← ef3, ← eff, ← ewt, ← z5]
          have hs : G2.fair.flows.set leaf ⟨(fwAt G2.fair.flows leaf).weight, (fwAt G2.fair.flows leaf).finish, (fwAt G2.fair.flows leaf).sizes⟩ = G2.fair.flows := by
            apply List.ext_getElem (by simp)
            intro i h1 h2
            rw [List.getElem_set]
            split
            · rename_i e; subst e; unfold fwAt; rw [List.getElem?_eq_getElem h2]; rfl
            · rfl
          rw [hs]
        rw [e]
        exact ⟨FR.out.1, FR.out.2.1, FR.out.2.2, z7⟩
      clear Mx
      go_wp2_with fail
      go_meet
      exact ⟨_, X9.out⟩
  case rest =>
  obtain ⟨Y3, rfl⟩ : ∃ z, z = wc := ⟨_, rfl⟩
  obtain ⟨rs3, hF3⟩ := hcut.out
  have F3 : Hid _ := hF3
  clear hF3 hcut Mx FR R2 cF2 cFin iFin lFin cNow
  obtain ⟨g3n, hg3⟩ : ∃ n, G3.fair.flows.length = n := ⟨_, rfl⟩
  have L3 : Hid (leaf < G3.fair.flows.length ∧ (fwAt G3.fair.flows leaf).sizes = sizes ∧ sizes.length = hn ∧ x.a7 = some ⟨fk, 0, none⟩ ∧ (fwAt G3.fair.flows leaf) = ⟨wt, f3, sizes⟩ ∧ G3.fair.now = nw ∧ G3.next = nx) := by
    obtain ⟨e3, -⟩ := HG3.out
    obtain ⟨z1, z2, z3, z4, z5, z6, z7, z8⟩ := HG2.out
    have h1 : fwAt G3.fair.flows leaf = ⟨wt, f3, sizes⟩ := by rw [← e3]; exact fwAt_set z4
    exact ⟨by rw [← e3]; simp only; rw [List.length_set]; exact z4, by rw [h1], z6, z8, h1, by rw [← e3], by rw [← e3]; exact z3⟩
  have R3 : Hid (IRow b Y3 (.slice ha hn hc) sizes) := by
    have := F3.out.1.own.fair.row leaf L3.out.1
    rw [F3.out.2.2.2, L3.out.2.1] at this
    exact this
  have O3 : Hid (Y3.ownsRow b 116 3 (.slice (some ⟨fk, 0, none⟩) G3.fair.flows.length x.c7) G3.fair.flows.length (fwcells rs3)) := by
    show Y3.ownsRow b 116 3 (.slice (some ⟨fk, 0, none⟩) G3.fair.flows.length x.c7) G3.fair.flows.length (fwcells rs3)
    rw [← L3.out.2.2.2.1]
    exact F3.out.1.own.fair.outer
  have cF3 : Y3.cell? ⟨fk, leaf * 3 + 2, none⟩ = some (.slice ha hn hc) := by
    rw [World.ownsRow.cellAt O3.out (leaf * 3 + 2) (by have := L3.out.1; omega), (fwcells_get rs3 leaf (by rw [F3.out.1.own.fair.len]; exact L3.out.1)).2.2, F3.out.2.2.2]
  have asz : Hid ((Y3.alloc (.cells #[.int .i64 size] 2)).heap.size = Y3.heap.size + 1) := by show _ = _; simp
  have hbe : Hid (Below Y3.heap.size Y3 (Y3.alloc (.cells #[.int .i64 size] 2))) := (Below.refl _ _).alloc (Nat.le_refl _) _
  have Wr : Hid (IRow b (Y3.alloc (.cells #[.int .i64 size] 2)) (.slice ha hn hc) sizes ∧ IntsAt (Y3.alloc (.cells #[.int .i64 size] 2)) (some ⟨Y3.heap.size, 0, none⟩) [size] ∧ b ≤ (Y3.alloc (.cells #[.int .i64 size] 2)).heap.size) := ⟨irow_carry R3.out fun k _ hk => hbe.out.block k hk, ints_new Y3 2 [size] #[.int .i64 size] Y3.heap.size rfl rfl, Nat.le_trans F3.out.2.2.1 hbe.out.size⟩
  obtain ⟨G4, hG4⟩ : ∃ z : Gt, { G3 with fair := ⟨G3.fair.now, G3.fair.flows.set leaf ⟨(fwAt G3.fair.flows leaf).weight, (fwAt G3.fair.flows leaf).finish, sizes ++ [size]⟩⟩ } = z := ⟨_, rfl⟩
  have HG4 : Hid _ := hG4
  have Nx : Hid (∀ uv w9, IRow b w9 uv (sizes ++ [size]) → Below b (Y3.alloc (.cells #[.int .i64 size] 2)) w9 → World.grownBy (Y3.alloc (.cells #[.int .i64 size] 2)) w9 (Value.slice ha hn hc).ownBlock → (uv.ownBlock = (Value.slice ha hn hc).ownBlock ∨ uv.ownBlock = some (Y3.alloc (.cells #[.int .i64 size] 2)).heap.size) →
      (GtB b B (w9.setCell ⟨fk, leaf * 3 + 2, none⟩ uv) x vs2 (rs3.set leaf ⟨(fwrAt rs3 leaf).weight, (fwrAt rs3 leaf).finish, uv⟩) G4 ∧ Below b w (w9.setCell ⟨fk, leaf * 3 + 2, none⟩ uv)) ∧ w9.cell? ⟨fk, leaf * 3 + 2, none⟩ = some (.slice ha hn hc) ∧ w9.frozen? ⟨fk, leaf * 3 + 2, none⟩ = false ∧ fk < w9.heap.size) := fun uv w9 q1 q2 q3 q4 => by
    obtain ⟨z1, z2, z3, z4, -⟩ := L3.out
    have oth : ∀ k, k < Y3.heap.size → (Value.slice ha hn hc).ownBlock ≠ some k → w9.heap[k]? = Y3.heap[k]? := fun k hk hne => by rw [q3.block k (by rw [asz.out]; omega) (fun e => hne e.symm), Below.heap_alloc _ _ _ hk]
    have hne : (Value.slice ha hn hc).ownBlock ≠ some fk := fun e => rows_unlike O3.out R3.out (by decide) fk rfl e
    have hlk : fk < Y3.heap.size := (World.ownsRow.lt O3.out fk rfl).2
    have e1 := oth fk hlk hne
    refine ⟨⟨?_, ?_⟩, ?_, ?_, ?_⟩
    · rw [← HG4.out]
      exact F3.out.1.putSizes z1 z4 q1 (by rw [F3.out.2.2.2]; exact oth) (by
        rw [F3.out.2.2.2]
        intro k hk
        rcases q4 with h | h
        · left; rw [← h]; exact hk
        · right; rw [h] at hk; cases hk; rw [asz.out]; omega)
    · exact (F3.out.2.1.trans ((hbe.out.mono F3.out.2.2.1).trans q2)).setCell (World.ownsRow.lt O3.out fk rfl).1 _
    · rw [cell_kept e1]; exact cF3
    · rw [ice_kept e1]; exact World.ownsRow.frozenAt O3.out _
    · have := q2.size
      rw [asz.out] at this
      omega
  have HM : Hid (sizes.length = hn) := L3.out.2.2.1
  have hsx2 : Hid (hn ≤ 40) := hsx
  clear hG4 hg3 hsx
  have hlF : fk < Y3.heap.size := (World.ownsRow.lt O3.out fk rfl).2
  go_upto_region 24 with (refine int_row_app rfl (.tmp 168) (.tmp 170) rfl b (.slice ha hn hc) sizes (some ⟨Y3.heap.size, 0, none⟩) 1 1 [size] rfl rfl rfl Wr.out.1 Wr.out.2.1 (fun h => by cases h) (by rw [HM.out]; have := hsx2.out; simp only [List.length_singleton]; omega) Wr.out.2.2 ?_; intro uv w9 q1 q2 q3 q4; obtain ⟨ux, uc, eu⟩ := q1.shape; rw [List.length_append, List.length_singleton, HM.out] at eu; subst eu; have Q : Hid _ := Nx.out _ _ q1 q2 q3 q4; have k1 := Q.out.2.1; have k2 := Q.out.2.2.1; have k3 := Q.out.2.2.2; clear q1 q2 q3 q4)
  generalize w9.setCell ⟨fk, leaf * 3 + 2, none⟩ (.slice ux (hn + 1) uc) = w10 at Q ⊢
  have cNx : w10.cell? ⟨B, 12, none⟩ = some (.int .i64 G4.next) := Q.out.1.1.box.cell 12 rfl
  have iNx := Q.out.1.1.box.ice 12
  have lNx := Q.out.1.1.box.under
  have eNx : Hid (G4.next = nx) := by show G4.next = nx; rw [← HG4.out]; exact L3.out.2.2.2.2.2.2
  rw [eNx.out] at cNx
  have hnx : Hid (1 ≤ nx ∧ nx ≤ 1000000) := by
    show 1 ≤ nx ∧ nx ≤ 1000000
    rw [← Z.out.1]
    exact Hk.out.2.2.2.2.1
  have kNx : IntKind.i64.wrap (nx + 1) = nx + 1 := by rw [IntKind.wrap_i64]; have := hnx.out; omega
  have Fin : Hid (GtB b B (w10.setCell ⟨B, 12, none⟩ (.int .i64 (nx + 1))) x vs2 (rs3.set leaf ⟨(fwrAt rs3 leaf).weight, (fwrAt rs3 leaf).finish, .slice ux (hn + 1) uc⟩) (Gt.put { g with draw := nd } leaf sz) ∧ Below b w (w10.setCell ⟨B, 12, none⟩ (.int .i64 (nx + 1)))) := by
    refine ⟨?_, Q.out.1.2.setCell Hb.out.2 _⟩
    have h := Q.out.1.1.putNext (d := nx + 1) rfl
    have e : ({ G4 with next := nx + 1 } : Gt) = Gt.put { g with draw := nd } leaf sz := by
      obtain ⟨y1, y2, y3, y4, y5⟩ := HG3.out
      obtain ⟨z1, z2, z3, z4, z5, z6, z7, z8⟩ := HG2.out
      obtain ⟨l1, l2, l3, l4, l5, l6, l7⟩ := L3.out
      have p1 : G4 = { G3 with fair := ⟨nw, G3.fair.flows.set leaf ⟨wt, f3, sizes ++ [size]⟩⟩ } := by rw [← HG4.out, l5, l6]
      have p2 : G3.fair.flows.set leaf ⟨wt, f3, sizes ++ [size]⟩ = G2.fair.flows.set leaf ⟨wt, f3, sizes ++ [size]⟩ := by rw [← y1]; simp only; rw [List.set_set]
      have a1 : fwAt g.fair.flows leaf = ⟨wt, ff, sizes⟩ := by rw [← y2, ← y3, ← z5, z2]
      have a2 : g.fair.now = nw := by rw [← y4, z2]
      have q1 := Z.out.1
      have q2 := Hl.out.1
      have q3 := E5.out.2.2.2
      have q4 := Hsi.out
      have q5 := Hsz.out
      rw [p1, p2, ← y1, z2, ← z1]
      unfold Gt.put Rw.putL Fw.more
      simp only [a1, a2, q1, q2, q3, ← q5, q4, z6, y5]
    rw [← e]
    exact h
  clear Q
  go_upto_region 25 with fail
  generalize w10.setCell ⟨B, 12, none⟩ (.int .i64 (nx + 1)) = w11 at Fin ⊢
  go_wp2
  go_ret
  exact ⟨rfl, ⟨_, _, _, Fin.out.1⟩, Fin.out.2⟩
end Go.Proofs.YtgebghkcikmfaaaGreatDoor
