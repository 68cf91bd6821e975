/-
  bino.leastRoot: the first tree with the least root.
-/
import Derived.Test.YtmkjalpgeljnkaaDoorRefB9
namespace Go.Proofs.YtmkjalpgeljnkaaDoor
open Go.RowKit Go.Sort Go.Proofs

/-- The heap's trees are there, and none is empty: rank, and where the items lie. -/
theorem HpF.first {w0 w : World} {p : Option Addr} {n cap : Nat} {h : List TrL} (H : HpF w0 w (.slice p n cap) h) (hg : OkH h) {i : Nat} (hi : i < h.length) :
    ∃ r l q c blk off b o, h[i]? = some (r, l) ∧ r ≤ 5 ∧ p = some ⟨blk, off, none⟩ ∧ blk < w.heap.size ∧ w.cell? ⟨blk, off + i * 2, none⟩ = some (.int .i64 (r : Int)) ∧ w.cell? ⟨blk, off + i * 2 + 1, none⟩ = some (.slice q l.length c) ∧ Sl w0 (.slice q l.length c) l.toArray ∧
      q = some ⟨b, o, none⟩ ∧ b < w0.heap.size ∧ 0 < l.length ∧ l.length ≤ 60 ∧ w0.cell? ⟨b, o, none⟩ = some (.int .i64 (rootK h i)) := by
  obtain ⟨r, l, e⟩ : ∃ r l, h[i]? = some (r, l) := ⟨h[i].1, h[i].2, List.getElem?_eq_getElem hi⟩
  have hm : (r, l) ∈ h := List.mem_of_getElem? e
  obtain ⟨blk, off, q, c, e1, hb, c0, c1, hs⟩ := H.tree e
  have hT := hg.isH.trees _ hm
  have hpos : 0 < l.length := by have := hT.len; have h2 := two_pos r; simp only at this; omega
  obtain ⟨p', c', e2, _, h0 | ⟨b, o, rfl, hr⟩⟩ := id hs
  · rw [List.size_toArray] at h0; omega
  · simp only [Value.slice.injEq] at e2
    obtain ⟨rfl, _, rfl⟩ := e2
    refine ⟨r, l, _, c, blk, off, b, o, e, hg.rank _ hm, e1, hb, c0, c1, hs, rfl, hr.1, hpos, Nat.le_trans (mem_items_len hm) hg.size, ?_⟩
    have h1 := (hr.2 0 (by simpa using hpos)).1
    simp only [Nat.zero_mul, Nat.add_zero] at h1
    rw [h1]
    unfold rootK keyL
    rw [e]
    obtain ⟨x, t, rfl⟩ := List.exists_cons_of_ne_nil (List.length_pos_iff.1 hpos)
    rfl

/-- A tree in a block of its own. -/
structure TrB (w : World) (blk : Nat) (r : Int) (s : SlV) : Prop where
  lt : blk < w.heap.size
  c0 : w.cell? ⟨blk, 0, none⟩ = some (.int .i64 r)
  c1 : w.cell? ⟨blk, 1, none⟩ = some (.slice s.1 s.2.1 s.2.2)
  f0 : w.frozen? ⟨blk, 0, none⟩ = false
  f1 : w.frozen? ⟨blk, 1, none⟩ = false
theorem TrB.block {w w' : World} {blk : Nat} {r : Int} {s : SlV} (h : TrB w blk r s) (hs : w.heap.size ≤ w'.heap.size) (hb : w'.heap[blk]? = w.heap[blk]?) : TrB w' blk r s :=
  ⟨Nat.lt_of_lt_of_le h.lt hs, (World.cell?_of_block (a := ⟨blk, 0, none⟩) hb).trans h.c0, (World.cell?_of_block (a := ⟨blk, 1, none⟩) hb).trans h.c1, (World.frozen?_of_block (a := ⟨blk, 0, none⟩) hb).trans h.f0, (World.frozen?_of_block (a := ⟨blk, 1, none⟩) hb).trans h.f1⟩
theorem TrB.below {w w' : World} {blk B : Nat} {r : Int} {s : SlV} (h : TrB w blk r s) (hb : Below B w w') (hB : blk < B) : TrB w' blk r s := h.block hb.size (hb.block blk hB)
theorem TrB.kept {w w' : World} {blk : Nat} {row : Option Nat} {r : Int} {s : SlV} (h : TrB w blk r s) (hg : w.grownBy w' row) (hne : some blk ≠ row) : TrB w' blk r s := h.block hg.size (hg.block blk h.lt hne)
theorem TrB.set {w : World} {blk : Nat} {r : Int} {s : SlV} (h : TrB w blk r s) (r' : Int) (s' : SlV) : TrB ((w.setCell ⟨blk, 0, none⟩ (.int .i64 r')).setCell ⟨blk, 1, none⟩ (.slice s'.1 s'.2.1 s'.2.2)) blk r' s' := by
  refine ⟨by rw [size_setCell, size_setCell]; exact h.lt, ?_, ?_, ?_, ?_⟩
  · rw [World.cell?_setCell_other _ _ _ _ (by simp), World.cell?_setCell_same _ _ _ h.c0]
  · exact World.cell?_setCell_same _ _ _ ((World.cell?_setCell_other _ _ _ _ (by simp)).trans h.c1)
  · rw [World.frozen?_setCell, World.frozen?_setCell]; exact h.f0
  · rw [World.frozen?_setCell, World.frozen?_setCell]; exact h.f1
theorem new_trb (w : World) (r : Int) (s : SlV) (T : TypeId) (g : Nat) (hg : g = w.heap.size) : TrB (w.alloc (.cells #[.int .i64 r, .slice s.1 s.2.1 s.2.2] T)) g r s := by
  subst hg
  exact ⟨by simp, by simp, by simp, by simp, by simp⟩

set_option maxHeartbeats 16000000 in
set_option maxRecDepth 4000 in
theorem least_A (p : Option Addr) (n cap : Nat) (h : List TrL) (w0 w : World) (hn0 : 0 < n) (hn : n ≤ 100) (hcap : n ≤ cap) (hone : cap = 1) (HN : Hid (h.length = n)) (HW0 : Hid (Below w0.heap.size w0 w)) (HA : Hid (HpF w0 w (.slice p n cap) h)) (HG : Hid (OkH h)) :
    Calls Tryd.prog 39 #[.slice p n cap] w fun e w' => ∃ (r : Nat) (l : List (Int × Int)) (q : Option Addr) (c : Nat), e = .returned (.agg #[.int .i64 (r : Int), .slice q l.length c]) ∧ h[atTo h n]? = some (r, l) ∧ Sl w0 (.slice q l.length c) l.toArray ∧ Below w.heap.size w w' := by
  subst hone
  obtain rfl : n = 1 := by omega
  obtain ⟨r0, l0, q0, c0, blk, off, b0, o0, e0, hr0, rfl, hblk, t0, t1, hs0, rfl, hb0, hp0, hl0, k0⟩ := HA.out.first HG.out (i := 0) (by rw [HN.out]; exact hn0)
  have k0 := (HW0.out.cell (p := ⟨b0, o0, none⟩) hb0).trans k0
  have hb0 : b0 < w.heap.size := Nat.lt_of_lt_of_le hb0 HW0.out.size
  simp only [Nat.zero_mul, Nat.add_zero] at t0 t1
  obtain ⟨n0, hn0'⟩ : ∃ m, l0.length = m := ⟨_, rfl⟩
  rw [hn0'] at t1 hs0 hp0 hl0
  have HS0 : Hid (Sl w0 (.slice (some ⟨b0, o0, none⟩) n0 c0) l0.toArray) := hs0
  have HL0 : Hid (l0.length = n0) := hn0'
  have HE0 : Hid (h[atTo h 1]? = some (r0, l0)) := by
    show h[atTo h (0 + 1)]? = _
    have : atTo h (0 + 1) = 0 := by have := atTo_lt h 1 (by omega); show atTo h 1 = 0; omega
    rw [this]; exact e0
  have HK0 : Hid (w.cell? ⟨b0, o0, none⟩ = some (.int .i64 (rootK h (atTo h 1)))) := by
    show _ = _
    have : atTo h 1 = 0 := by have := atTo_lt h 1 (by omega); omega
    rw [this]; exact k0
  clear hs0 hn0' e0 k0
  go_enter Tryd.func39, Tryd.ntmps39
  go_wp2
  have T1 : Hid (TrB ((w.alloc (.cells #[.int .i64 0, .slice none 0 0] 37)).alloc (.cells #[.int .i64 (r0 : Int), .slice (some ⟨b0, o0, none⟩) n0 c0] 37)) (w.heap.size + 1) (r0 : Int) (some ⟨b0, o0, none⟩, n0, c0)) := new_trb _ _ (some ⟨b0, o0, none⟩, n0, c0) _ _ (by simp)
  have T0 : Hid (TrB ((w.alloc (.cells #[.int .i64 0, .slice none 0 0] 37)).alloc (.cells #[.int .i64 (r0 : Int), .slice (some ⟨b0, o0, none⟩) n0 c0] 37)) w.heap.size 0 (none, 0, 0)) := (new_trb w 0 (none, 0, 0) _ _ rfl).kept (World.grownBy_alloc _ _ none) (by simp)
  have HB0 : Hid (Below w.heap.size w ((w.alloc (.cells #[.int .i64 0, .slice none 0 0] 37)).alloc (.cells #[.int .i64 (r0 : Int), .slice (some ⟨b0, o0, none⟩) n0 c0] 37))) := ((Below.refl _ _).alloc (Nat.le_refl _) _).alloc (by simp) _
  generalize ((w.alloc (.cells #[.int .i64 0, .slice none 0 0] 37)).alloc (.cells #[.int .i64 (r0 : Int), .slice (some ⟨b0, o0, none⟩) n0 c0] 37)) = wz at T1 T0 HB0 ⊢
  go_loopg [12] 1 (fun gg v12 wr => ∃ (j r ln c b o : Nat) (l : List (Int × Int)), v12 = .int .i64 j ∧ j + 1 ≤ 1 ∧ 1 - (j + 1) ≤ gg ∧ 0 < ln ∧ b < w.heap.size ∧ Hid (l.length = ln) ∧ Hid (h[atTo h (j + 1)]? = some (r, l)) ∧ Hid (Sl w0 (.slice (some ⟨b, o, none⟩) ln c) l.toArray) ∧ Hid (w.cell? ⟨b, o, none⟩ = some (.int .i64 (rootK h (atTo h (j + 1))))) ∧ Hid (TrB wr (w.heap.size + 1) (r : Int) (some ⟨b, o, none⟩, ln, c)) ∧ Hid (TrB wr w.heap.size 0 (none, 0, 0)) ∧ Hid (Below w.heap.size w wr))
  case atStart => exact ⟨0, r0, n0, c0, b0, o0, l0, rfl, by omega, by omega, hp0, hb0, HL0, HE0, HS0, HK0, T1, T0, HB0⟩
  case round =>
    obtain ⟨j, r, ln, c, b, o, l, rfl, hj, hg, hln, hb, HL, HE, HS, HK, T1, T0, HB⟩ := hrel
    have hB : w.heap.size ≤ wr.heap.size := HB.out.size
    have hlw : w.heap.size + 1 < wr.heap.size := T1.out.lt
    by_cases hlt : j + 1 < 1
    · omega
    · obtain rfl : j = 0 := by omega
      have hjn : 0 + 1 = 1 := rfl
      obtain ⟨-, a0, a1, _, _⟩ := T1.out
      obtain ⟨-, d0, d1, f0, f1⟩ := T0.out
      simp only at a1 d1
      have HE' : Hid (h[atTo h 1]? = some (r, l)) := by show _ = _; have := HE.out; rw [hjn] at this; exact this
      clear HE
      go_wp2
      refine bodyPost_ret (by simp [results, Tryd.results39, go_sem, d0, d1]; try rfl) rfl ?_
      exact ⟨r, l, some ⟨b, o, none⟩, c, by rw [HL.out], HE'.out, by rw [HL.out]; exact HS.out, (HB.out.setCell (p := ⟨w.heap.size, 0, none⟩) (Nat.le_refl _) _).setCell (p := ⟨w.heap.size, 1, none⟩) (Nat.le_refl _) _⟩
set_option maxHeartbeats 16000000 in
set_option maxRecDepth 4000 in
theorem least_B (p : Option Addr) (n cap : Nat) (h : List TrL) (w0 w : World) (hn0 : 0 < n) (hn : n ≤ 100) (hone : cap ≠ 1) (HN : Hid (h.length = n)) (HW0 : Hid (Below w0.heap.size w0 w)) (HA : Hid (HpF w0 w (.slice p n cap) h)) (HG : Hid (OkH h)) :
    Calls Tryd.prog 39 #[.slice p n cap] w fun e w' => ∃ (r : Nat) (l : List (Int × Int)) (q : Option Addr) (c : Nat), e = .returned (.agg #[.int .i64 (r : Int), .slice q l.length c]) ∧ h[atTo h n]? = some (r, l) ∧ Sl w0 (.slice q l.length c) l.toArray ∧ Below w.heap.size w w' := by
  have hz1 : (1 : Int) ≤ (n : Int) := by omega
  have hz0 : (0 : Int) < (n : Int) := by omega
  obtain ⟨r0, l0, q0, c0, blk, off, b0, o0, e0, hr0, rfl, hblk, t0, t1, hs0, rfl, hb0, hp0, hl0, k0⟩ := HA.out.first HG.out (i := 0) (by rw [HN.out]; exact hn0)
  have k0 := (HW0.out.cell (p := ⟨b0, o0, none⟩) hb0).trans k0
  have hb0 : b0 < w.heap.size := Nat.lt_of_lt_of_le hb0 HW0.out.size
  simp only [Nat.zero_mul, Nat.add_zero] at t0 t1
  obtain ⟨n0, hn0'⟩ : ∃ m, l0.length = m := ⟨_, rfl⟩
  rw [hn0'] at t1 hs0 hp0 hl0
  have HS0 : Hid (Sl w0 (.slice (some ⟨b0, o0, none⟩) n0 c0) l0.toArray) := hs0
  have HL0 : Hid (l0.length = n0) := hn0'
  have HE0 : Hid (h[atTo h 1]? = some (r0, l0)) := by
    show h[atTo h (0 + 1)]? = _
    have : atTo h (0 + 1) = 0 := by have := atTo_lt h 1 (by omega); show atTo h 1 = 0; omega
    rw [this]; exact e0
  have HK0 : Hid (w.cell? ⟨b0, o0, none⟩ = some (.int .i64 (rootK h (atTo h 1)))) := by
    show _ = _
    have : atTo h 1 = 0 := by have := atTo_lt h 1 (by omega); omega
    rw [this]; exact k0
  clear hs0 hn0' e0 k0
  go_enter Tryd.func39, Tryd.ntmps39
  go_wp2
  have T1 : Hid (TrB ((w.alloc (.cells #[.int .i64 0, .slice none 0 0] 37)).alloc (.cells #[.int .i64 (r0 : Int), .slice (some ⟨b0, o0, none⟩) n0 c0] 37)) (w.heap.size + 1) (r0 : Int) (some ⟨b0, o0, none⟩, n0, c0)) := new_trb _ _ (some ⟨b0, o0, none⟩, n0, c0) _ _ (by simp)
  have T0 : Hid (TrB ((w.alloc (.cells #[.int .i64 0, .slice none 0 0] 37)).alloc (.cells #[.int .i64 (r0 : Int), .slice (some ⟨b0, o0, none⟩) n0 c0] 37)) w.heap.size 0 (none, 0, 0)) := (new_trb w 0 (none, 0, 0) _ _ rfl).kept (World.grownBy_alloc _ _ none) (by simp)
  have HB0 : Hid (Below w.heap.size w ((w.alloc (.cells #[.int .i64 0, .slice none 0 0] 37)).alloc (.cells #[.int .i64 (r0 : Int), .slice (some ⟨b0, o0, none⟩) n0 c0] 37))) := ((Below.refl _ _).alloc (Nat.le_refl _) _).alloc (by simp) _
  generalize ((w.alloc (.cells #[.int .i64 0, .slice none 0 0] 37)).alloc (.cells #[.int .i64 (r0 : Int), .slice (some ⟨b0, o0, none⟩) n0 c0] 37)) = wz at T1 T0 HB0 ⊢
  go_loopg [12] n (fun gg v12 wr => ∃ (j r ln c b o : Nat) (l : List (Int × Int)), v12 = .int .i64 j ∧ j + 1 ≤ n ∧ n - (j + 1) ≤ gg ∧ 0 < ln ∧ b < w.heap.size ∧ Hid (l.length = ln) ∧ Hid (h[atTo h (j + 1)]? = some (r, l)) ∧ Hid (Sl w0 (.slice (some ⟨b, o, none⟩) ln c) l.toArray) ∧ Hid (w.cell? ⟨b, o, none⟩ = some (.int .i64 (rootK h (atTo h (j + 1))))) ∧ Hid (TrB wr (w.heap.size + 1) (r : Int) (some ⟨b, o, none⟩, ln, c)) ∧ Hid (TrB wr w.heap.size 0 (none, 0, 0)) ∧ Hid (Below w.heap.size w wr))
  case atStart => exact ⟨0, r0, n0, c0, b0, o0, l0, rfl, by omega, by omega, hp0, hb0, HL0, HE0, HS0, HK0, T1, T0, HB0⟩
  case round =>
    obtain ⟨j, r, ln, c, b, o, l, rfl, hj, hg, hln, hb, HL, HE, HS, HK, T1, T0, HB⟩ := hrel
    have hB : w.heap.size ≤ wr.heap.size := HB.out.size
    have hlw : w.heap.size + 1 < wr.heap.size := T1.out.lt
    by_cases hlt : j + 1 < n
    · have hjz : (j : Int) < ((n - 1 : Nat) : Int) := by omega
      obtain ⟨r', l', q', c', blk', off', b', o', e', hr', hq', hblk', u0, u1, hs', rfl, hb', hp', hl', k'⟩ := HA.out.first HG.out (i := j + 1) (by rw [HN.out]; exact hlt)
      have k' := (HW0.out.cell (p := ⟨b', o', none⟩) hb').trans k'
      have hb' : b' < w.heap.size := Nat.lt_of_lt_of_le hb' HW0.out.size
      simp only [Option.some.injEq, Addr.mk.injEq] at hq'
      obtain ⟨rfl, rfl, _⟩ := hq'
      obtain ⟨ln', hln'⟩ : ∃ m, l'.length = m := ⟨_, rfl⟩
      rw [hln'] at u1 hs' hp' hl'
      have v0 := (HB.out.cell (p := ⟨blk, off + (j + 1) * 2, none⟩) hblk).trans u0
      have v1 := (HB.out.cell (p := ⟨blk, off + (j + 1) * 2 + 1, none⟩) hblk).trans u1
      rw [show off + (j + 1) * 2 = off + 2 + j * 2 by omega] at v0 v1
      have x0 := (HB.out.cell (p := ⟨b', o', none⟩) hb').trans k'
      have x1 := (HB.out.cell (p := ⟨b, o, none⟩) hb).trans HK.out
      have hbw : b < wr.heap.size := by omega
      have hbw' : b' < wr.heap.size := by omega
      have hblw : blk < wr.heap.size := by omega
      obtain ⟨-, a0, a1, _, _⟩ := T1.out
      simp only at a1
      have hzl : (0 : Int) < (ln : Int) := by omega
      have hzl' : (0 : Int) < (ln' : Int) := by omega
      have HS' : Hid (Sl w0 (.slice (some ⟨b', o', none⟩) ln' c') l'.toArray) := hs'
      have HL' : Hid (l'.length = ln') := hln'
      have HE' : Hid (h[j + 1]? = some (r', l')) := e'
      have HK' : Hid (w.cell? ⟨b', o', none⟩ = some (.int .i64 (rootK h (j + 1)))) := k'
      have HAT : Hid (atTo h (j + 1 + 1) = if rootK h (j + 1) < rootK h (atTo h (j + 1)) then j + 1 else atTo h (j + 1)) := rfl
      clear hs' hln' e' k' u0 u1
      generalize hkn : rootK h (j + 1) = kn at *
      generalize hko : rootK h (atTo h (j + 1)) = ko at *
      have HKN : Hid (rootK h (j + 1) = kn) := hkn
      have HKO : Hid (rootK h (atTo h (j + 1)) = ko) := hko
      clear hkn hko
      by_cases hless : kn < ko
      · have hd : decide (kn < ko) = true := decide_eq_true hless
        have HATE : Hid (atTo h (j + 1 + 1) = j + 1) := by show _ = _; rw [HAT.out, if_pos hless]
        clear HAT
        go_wp2_with fail
        go_quiet (fail)
        have hbq : Below wr.heap.size wr ((wr.alloc (.cells #[.int .i64 (r' : Int), .slice (some ⟨b', o', none⟩) ln' c'] 37)).drewN nq) := below_drewN ((Below.refl _ _).alloc (Nat.le_refl _) _) nq
        have TQ1 : Hid (TrB ((wr.alloc (.cells #[.int .i64 (r' : Int), .slice (some ⟨b', o', none⟩) ln' c'] 37)).drewN nq) (w.heap.size + 1) (r : Int) (some ⟨b, o, none⟩, ln, c)) := T1.out.below hbq hlw
        have TQ0 : Hid (TrB ((wr.alloc (.cells #[.int .i64 (r' : Int), .slice (some ⟨b', o', none⟩) ln' c'] 37)).drewN nq) w.heap.size 0 (none, 0, 0)) := T0.out.below hbq (by omega)
        have HBQ : Hid (Below w.heap.size w ((wr.alloc (.cells #[.int .i64 (r' : Int), .slice (some ⟨b', o', none⟩) ln' c'] 37)).drewN nq)) := HB.out.trans (hbq.mono hB)
        have TN : Hid (TrB ((wr.alloc (.cells #[.int .i64 (r' : Int), .slice (some ⟨b', o', none⟩) ln' c'] 37)).drewN nq) wr.heap.size (r' : Int) (some ⟨b', o', none⟩, ln', c')) := (new_trb wr (r' : Int) (some ⟨b', o', none⟩, ln', c') _ _ rfl).block (Nat.le_refl _) rfl
        clear hbq T1 T0 HB
        generalize ((wr.alloc (.cells #[.int .i64 (r' : Int), .slice (some ⟨b', o', none⟩) ln' c'] 37)).drewN nq) = wq at TQ1 TQ0 HBQ TN ⊢
        obtain ⟨y9, y0, y1, _, _⟩ := TN.out
        obtain ⟨z9, z0, z1, z2, z3⟩ := TQ1.out
        simp only at y1 z1
        go_wp2
        go_roundg (n - (j + 1 + 1))
        case measure => omega
        case rel => exact ⟨j + 1, r', ln', c', b', o', l', by go_num, by omega, Nat.le_refl _, hp', hb', HL', (show _ = _ by rw [HATE.out]; exact HE'.out), HS', (show _ = _ by rw [HATE.out, HKN.out]; exact HK'.out), TQ1.out.set _ (some ⟨b', o', none⟩, ln', c'), TQ0.out.kept (gb_set (World.grownBy.refl _ _) _ _ _ _) (fun e => by have := Option.some.inj e; omega), (HBQ.out.setCell (p := ⟨w.heap.size + 1, 0, none⟩) (by simp) _).setCell (p := ⟨w.heap.size + 1, 1, none⟩) (by simp) _⟩
      · have hd : decide (kn < ko) = false := decide_eq_false hless
        have HATE : Hid (atTo h (j + 1 + 1) = atTo h (j + 1)) := by show _ = _; rw [HAT.out, if_neg hless]
        clear HAT
        go_wp2_with fail
        go_quiet (fail)
        have hbq : Below wr.heap.size wr ((wr.alloc (.cells #[.int .i64 (r' : Int), .slice (some ⟨b', o', none⟩) ln' c'] 37)).drewN nq) := below_drewN ((Below.refl _ _).alloc (Nat.le_refl _) _) nq
        have TQ1 : Hid (TrB ((wr.alloc (.cells #[.int .i64 (r' : Int), .slice (some ⟨b', o', none⟩) ln' c'] 37)).drewN nq) (w.heap.size + 1) (r : Int) (some ⟨b, o, none⟩, ln, c)) := T1.out.below hbq hlw
        have TQ0 : Hid (TrB ((wr.alloc (.cells #[.int .i64 (r' : Int), .slice (some ⟨b', o', none⟩) ln' c'] 37)).drewN nq) w.heap.size 0 (none, 0, 0)) := T0.out.below hbq (by omega)
        have HBQ : Hid (Below w.heap.size w ((wr.alloc (.cells #[.int .i64 (r' : Int), .slice (some ⟨b', o', none⟩) ln' c'] 37)).drewN nq)) := HB.out.trans (hbq.mono hB)
        have TN : Hid (TrB ((wr.alloc (.cells #[.int .i64 (r' : Int), .slice (some ⟨b', o', none⟩) ln' c'] 37)).drewN nq) wr.heap.size (r' : Int) (some ⟨b', o', none⟩, ln', c')) := (new_trb wr (r' : Int) (some ⟨b', o', none⟩, ln', c') _ _ rfl).block (Nat.le_refl _) rfl
        clear hbq T1 T0 HB
        generalize ((wr.alloc (.cells #[.int .i64 (r' : Int), .slice (some ⟨b', o', none⟩) ln' c'] 37)).drewN nq) = wq at TQ1 TQ0 HBQ TN ⊢
        obtain ⟨y9, y0, y1, _, _⟩ := TN.out
        obtain ⟨z9, z0, z1, z2, z3⟩ := TQ1.out
        simp only at y1 z1
        go_wp2
        go_roundg (n - (j + 1 + 1))
        case measure => omega
        case rel => exact ⟨j + 1, r, ln, c, b, o, l, by go_num, by omega, Nat.le_refl _, hln, hb, HL, (show _ = _ by rw [HATE.out]; exact HE.out), HS, (show _ = _ by rw [HATE.out, HKO.out]; exact HK.out), TQ1, TQ0, HBQ⟩
    · have hjn : j + 1 = n := by omega
      have hjz : ¬ (j : Int) < ((n - 1 : Nat) : Int) := by omega
      obtain ⟨-, a0, a1, _, _⟩ := T1.out
      obtain ⟨-, d0, d1, f0, f1⟩ := T0.out
      simp only at a1 d1
      have HE' : Hid (h[atTo h n]? = some (r, l)) := by show _ = _; have := HE.out; rw [hjn] at this; exact this
      clear HE
      go_wp2
      refine bodyPost_ret (by simp [results, Tryd.results39, go_sem, d0, d1]; try rfl) rfl ?_
      exact ⟨r, l, some ⟨b, o, none⟩, c, by rw [HL.out], HE'.out, by rw [HL.out]; exact HS.out, (HB.out.setCell (p := ⟨w.heap.size, 0, none⟩) (Nat.le_refl _) _).setCell (p := ⟨w.heap.size, 1, none⟩) (Nat.le_refl _) _⟩
theorem least_any (v : Value) (h : List TrL) (w0 w : World) (H : HpAt w0 v (zH h)) (hb : Below w0.heap.size w0 w) (hg : OkH h) (hn : h ≠ []) :
    Calls Tryd.prog 39 #[v] w fun e w' => ∃ (r : Nat) (l : List (Int × Int)) (q : Option Addr) (c : Nat), e = .returned (.agg #[.int .i64 (r : Int), .slice q l.length c]) ∧ h[atTo h h.length]? = some (r, l) ∧ Sl w0 (.slice q l.length c) l.toArray ∧ Below w.heap.size w w' := by
  have HF := H.toF hb
  have hpos : 0 < h.length := List.length_pos_iff.2 hn
  have hle := hg.len_le
  obtain ⟨ts, ⟨p, c, e, hc, _⟩, h2, _⟩ := id HF
  subst e
  rw [h2] at HF hc ⊢
  by_cases h1 : c = 1
  · exact least_A p h.length c h w0 w hpos (by omega) hc h1 rfl hb HF hg
  · exact least_B p h.length c h w0 w hpos (by omega) h1 rfl hb HF hg
#print axioms least_any
end Go.Proofs.YtmkjalpgeljnkaaDoor
