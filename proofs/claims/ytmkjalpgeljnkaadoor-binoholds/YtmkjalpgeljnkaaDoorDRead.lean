/-
  bino.read: the trees of a heap at their ranks.
-/
import Derived.Test.YtmkjalpgeljnkaaDoorDDig
import Derived.Test.YtmkjalpgeljnkaaDoorRefB9
namespace Go.Proofs.YtmkjalpgeljnkaaDoor
open Go.RowKit Go.Sort Go.Proofs

set_option maxHeartbeats 4000000 in
set_option maxRecDepth 4000 in
theorem read_some (p : Option Addr) (n cap : Nat) (h : List TrL) (w : World) (hn : n ≤ 100) (HN : Hid (h.length = n)) (HA : Hid (HpF w w (.slice p n cap) h)) (HI : Hid (h.Pairwise (fun a b => a.1 < b.1))) (HR : Hid (∀ t ∈ h, t.1 < 6)) :
    Calls Tryd.prog 34 #[.slice p n cap] w fun e w' => ∃ d, e = .returned (agV d) ∧ DgAt w d (digitH h) ∧ Below w.heap.size w w' := by
  go_enter Tryd.func34, Tryd.ntmps34
  go_wp2
  go_loopg [8] n (fun gg vi wr => ∃ (i : Nat) (d : List SlV), vi = .int .i64 i ∧ i ≤ n ∧ n - i ≤ gg ∧ Hid (WrE ES wr (w.heap.size + 1) 0 d) ∧ Hid (WrE ES wr w.heap.size 0 (List.replicate 6 (none, 0, 0))) ∧ Hid (DgAt w d (digitH (h.take i))) ∧ Hid (Below w.heap.size w wr))
  case atStart => obtain ⟨a1, a2, a3⟩ := new_two w 62; exact ⟨0, _, rfl, Nat.zero_le _, by omega, a1, a2, DgAt.start w, a3⟩
  case round =>
    obtain ⟨i, d, rfl, hin, hg, HW, HO, HD, HB⟩ := hrel
    by_cases hlt : i < n
    · have hlz : (i : Int) < (n : Int) := by omega
      obtain ⟨⟨r, l⟩, hx⟩ : ∃ x, h[i]? = some x := ⟨h[i]'(by rw [HN.out]; omega), by simp⟩
      obtain ⟨blk, off, q, c, rfl, hblk, c0, c1, hsl⟩ := HA.out.tree hx
      have hr6 : r < 6 := HR.out (r, l) (List.mem_of_getElem? hx)
      have hr6z : (r : Int) < 6 := by omega
      have t0 := (HB.out.cell (p := ⟨blk, off + i * 2, none⟩) hblk).trans c0
      have t1 := (HB.out.cell (p := ⟨blk, off + i * 2 + 1, none⟩) hblk).trans c1
      have hB : w.heap.size ≤ wr.heap.size := HB.out.size
      have hbw : blk < wr.heap.size := by omega
      have hlw : w.heap.size + 1 < wr.heap.size := HW.out.lt
      obtain ⟨s0, e0, _⟩ := HD.out.2 r hr6
      obtain ⟨k0, k1⟩ := HW.out.row e0
      have HD' : Hid (DgAt w (d.set r (q, l.length, c)) (digitH (h.take (i + 1)))) := (HD.out.set (r := r) hsl).congr fun j _ => digitH_take HI.out hx j
      have hgs : wr.grownBy (wr.setCell ⟨w.heap.size + 1, r, none⟩ (.slice q l.length c)) (some (w.heap.size + 1)) := gb_setCell wr ⟨w.heap.size + 1, r, none⟩ (.slice q l.length c)
      have HB' : Hid (∀ o, Below w.heap.size w ((wr.setCell ⟨w.heap.size + 1, r, none⟩ (.slice q l.length c)).alloc o)) := fun o => (below_gb HB.out hgs (by omega) hB).alloc (by rw [size_setCell]; exact hB) o
      have HW' : Hid (∀ o, WrE ES ((wr.setCell ⟨w.heap.size + 1, r, none⟩ (.slice q l.length c)).alloc o) (w.heap.size + 1) 0 (d.set r (q, l.length, c))) := fun o => (HW.out.setRow (i := r) (by rw [HD.out.1]; exact hr6) (q, l.length, c)).alloc' o
      have HO' : Hid (∀ o, WrE ES ((wr.setCell ⟨w.heap.size + 1, r, none⟩ (.slice q l.length c)).alloc o) w.heap.size 0 (List.replicate 6 (none, 0, 0))) := fun o => (HO.out.kept hgs (fun e => by have := Option.some.inj e; omega)).alloc' o
      generalize l.length = ln at *
      clear c0 c1 hx hsl e0 hgs HD
      go_wp2
      go_roundg (n - (i + 1))
      case measure => omega
      case rel => exact ⟨i + 1, _, by go_num, by omega, Nat.le_refl _, HW'.out _, HO'.out _, HD', HB'.out _⟩
    · have hlz : ¬ (i : Int) < (n : Int) := by omega
      have HDE : Hid (DgAt w d (digitH h)) := by show DgAt _ _ _; have := HD.out; rw [List.take_of_length_le (by rw [HN.out]; omega)] at this; exact this
      obtain ⟨s0, s1, s2, s3, s4, s5, rfl⟩ := six HD.out.1
      obtain ⟨⟨c0, c1, c2, c3, c4, c5⟩, _⟩ := HW.out.six
      obtain ⟨⟨d0, d1, d2, d3, d4, d5⟩, ⟨f0, f1, f2, f3, f4, f5⟩⟩ := HO.out.six
      have hB : w.heap.size ≤ wr.heap.size := HB.out.size
      clear HD
      go_wp2
      refine bodyPost_ret (by simp [results, Tryd.results34, go_sem, d0, d1, d2, d3, d4, d5]; try rfl) rfl ?_
      exact ⟨_, rfl, HDE.out, below_six HB.out (Nat.le_refl _) _ _ _ _ _ _⟩
theorem read_any (v : Value) (g : List TrL) (w : World) (H : HpAt w v (zH g)) (hg : OkH g) :
    Calls Tryd.prog 34 #[v] w fun e w' => ∃ d, e = .returned (agV d) ∧ DgAt w d (digitH g) ∧ Below w.heap.size w w' := by
  have HF := H.toF (Below.refl _ _)
  obtain ⟨p, c, e⟩ := HF.shape
  subst e
  exact read_some p g.length c g w (by have := hg.len_le; omega) rfl HF hg.isH.rise fun t ht => by have := hg.rank t ht; omega
#print axioms read_any
end Go.Proofs.YtmkjalpgeljnkaaDoor
