/-
  The walk of the program's HeadSize: how long a right frame's head is. By the verifier.
-/
import Derived.Test.YtddjflaceokoaaaDoorFrHead
namespace Go.Proofs.YtddjflaceokoaaaDoor
open Go.RowKit

theorem Row.shape {base : Nat} {w : World} {v : Value} {xs : List Int} (h : Row base w v xs) : ∃ a cap, v = .slice a xs.length cap := by
  rcases h.2 with ⟨rfl, hn⟩ | ⟨g, cap, cur, rfl, _⟩
  · rw [hn]; exact ⟨none, 0, rfl⟩
  · exact ⟨_, _, rfl⟩

set_option maxHeartbeats 1600000 in
set_option maxRecDepth 100000 in
theorem implHeadSize (f : Fr) (a : Option Addr) (cap : Nat) (w : World) (hT : f.tags.length ≤ 1048576) (hc : Hid (IntsAt w a f.tags)) :
    Calls Tryd.prog 15 #[f.val a cap] w fun e w' => e = .returned (.int .i64 f.headSize) ∧ Below w.heap.size w w' := by
  have F := fun w1 (h : Hid (IntsAt w1 a f.tags)) => implFrameOk f a cap w1 hT h
  have G := fun w1 (ok : Hid f.Ok) (h : Hid (IntsAt w1 a f.tags)) => implHead f a cap w1 ok h
  have hsz : f.headSize = if f.ok then 23 + 3 * (f.tags.length : Int) else 0 := rfl
  have hl := f.head_length
  have hok := @Fr.ok_true f
  generalize f.headSize = hs at hsz ⊢
  generalize f.head = hd at hl G
  generalize f.ok = okb at F hsz hok
  generalize f.Ok = OK at G hok
  obtain ⟨to, frm, tags, src, dst, proto, sport, dport, mark, sum, body⟩ := f
  simp only [Fr.val] at F G hT hc hsz hl ⊢
  obtain ⟨len, hlen⟩ : ∃ n, tags.length = n := ⟨_, rfl⟩
  rw [hlen] at hT hsz hl ⊢
  simp only [hlen] at F G
  clear hlen
  have F' : Hid _ := F
  have G' : Hid _ := G
  have Hs : Hid _ := hsz
  have Hl : Hid _ := hl
  have Hok : Hid _ := hok
  clear F G hsz hl hok
  go_enter Tryd.func15, Tryd.ntmps15
  go_wp2_with fail
  have hbox := Boxed.new w #[.int .i64 to, .int .i64 frm, .slice a len cap, .int .i64 src, .int .i64 dst, .int .i64 proto, .int .i64 sport, .int .i64 dport, .int .i64 mark, .int .i64 sum, .string body] 26
  have hci := hc.out.alloc (.cells #[.int .i64 to, .int .i64 frm, .slice a len cap, .int .i64 src, .int .i64 dst, .int .i64 proto, .int .i64 sport, .int .i64 dport, .int .i64 mark, .int .i64 sum, .string body] 26)
  generalize hw1 : w.alloc (.cells #[.int .i64 to, .int .i64 frm, .slice a len cap, .int .i64 src, .int .i64 dst, .int .i64 proto, .int .i64 sport, .int .i64 dport, .int .i64 mark, .int .i64 sum, .string body] 26) = w1 at hbox hci ⊢
  have hs1 : w1.heap.size = w.heap.size + 1 := by rw [← hw1]; simp
  have Hw1 : Hid (∀ w', Below (w.heap.size + 1) w1 w' → Below w.heap.size w w') := by
    show ∀ w', _
    intro w' g; rw [← hw1] at g; exact below_of_alloc g
  have H0 : Hid (Boxed w1 w.heap.size _ _ ∧ IntsAt w1 a tags ∧ w1.heap.size = w.heap.size + 1) := ⟨hbox, hci, hs1⟩
  clear hbox hci hw1 hc
  refine (F'.out w1 H0.out.2.1).mono ?_
  rintro e w2 ⟨rfl, b2⟩
  have H2 : Hid (Below (w.heap.size + 1) w1 w2) := by rw [← H0.out.2.2]; exact b2
  clear b2
  cases okb with
  | false =>
    go_wp2
    go_ret
    exact ⟨by rw [Hs.out]; rfl, Hw1.out _ H2.out⟩
  | true =>
    have hb2 := H0.out.1.below (by omega) H2.out
    have c0 := hb2.cell 0 rfl
    have c1 := hb2.cell 1 rfl
    have c2 := hb2.cell 2 rfl
    have c3 := hb2.cell 3 rfl
    have c4 := hb2.cell 4 rfl
    have c5 := hb2.cell 5 rfl
    have c6 := hb2.cell 6 rfl
    have c7 := hb2.cell 7 rfl
    have c8 := hb2.cell 8 rfl
    have c9 := hb2.cell 9 rfl
    have c10 := hb2.cell 10 rfl
    have Hb2 : Hid _ := hb2
    clear hb2
    go_wp2_with fail
    refine (G'.out w2 (Hok.out.1 trivial) (ints_below H0.out.2.1 (Nat.le_of_eq H0.out.2.2) H2.out)).mono ?_
    rintro e w3 ⟨v3, rfl, r3, b3⟩
    obtain ⟨a3, cap3, rfl⟩ := r3.shape
    have hsz2 := H2.out.size
    have hs1 := H0.out.2.2
    have H3 : Hid (Below w.heap.size w w3) := (Hw1.out _ H2.out).trans (b3.mono (by omega))
    rw [Hl.out]
    clear r3 b3
    go_wp2
    go_ret
    exact ⟨by rw [Hs.out]; simp, H3.out⟩

end Go.Proofs.YtddjflaceokoaaaDoor
