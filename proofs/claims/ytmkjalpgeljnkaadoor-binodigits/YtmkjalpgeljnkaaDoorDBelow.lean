/-
  bino.below: the trees below a root, by rank.
-/
import Derived.Test.YtmkjalpgeljnkaaDoorDDig
import Derived.Test.YtmkjalpgeljnkaaDoorRefB9
namespace Go.Proofs.YtmkjalpgeljnkaaDoor
open Go.RowKit Go.Sort Go.Proofs

/-- The tree of rank j below the root of a tree of rank r, or none. -/
def partD (r : Nat) (l : List (Int × Int)) (j : Nat) : List (Int × Int) := if j < r then (l.drop (1 + (2 ^ r - 2 ^ (j + 1)))).take (2 ^ j) else []
/-- What is left of it when the trees of the ranks k and above are taken. -/
def restD (r : Nat) (l : List (Int × Int)) (k : Nat) : List (Int × Int) := l.drop (1 + (2 ^ r - 2 ^ (min r k)))
theorem restD_len {r : Nat} {l : List (Int × Int)} (h : l.length = 2 ^ r) (k : Nat) : (restD r l k).length = 2 ^ (min r k) - 1 := by
  have h1 : 2 ^ (min r k) ≤ 2 ^ r := Nat.pow_le_pow_right (by omega) (Nat.min_le_left _ _)
  have h2 := two_pos (min r k)
  unfold restD
  rw [List.length_drop, h]
  omega
theorem restD_top (r : Nat) (l : List (Int × Int)) (k : Nat) (hk : r ≤ k) : restD r l k = l.drop 1 := by
  unfold restD
  rw [Nat.min_eq_left hk, Nat.sub_self, Nat.add_zero]
theorem restD_skip (r : Nat) (l : List (Int × Int)) (k : Nat) (hk : r ≤ k) : restD r l (k + 1) = restD r l k := by
  rw [restD_top r l k hk, restD_top r l (k + 1) (by omega)]
theorem restD_take {r : Nat} {l : List (Int × Int)} (k : Nat) (hk : k < r) : (restD r l (k + 1)).take (2 ^ k) = partD r l k := by
  unfold restD partD
  rw [if_pos hk, Nat.min_eq_right (show k + 1 ≤ r from hk)]
theorem restD_drop {r : Nat} {l : List (Int × Int)} (k : Nat) (hk : k < r) : (restD r l (k + 1)).drop (2 ^ k) = restD r l k := by
  unfold restD
  rw [Nat.min_eq_right (show k + 1 ≤ r from hk), Nat.min_eq_right (by omega), List.drop_drop]
  congr 1
  have h1 : 2 ^ (k + 1) = 2 ^ k + 2 ^ k := by rw [Nat.pow_succ]; omega
  have h2 : 2 ^ (k + 1) ≤ 2 ^ r := Nat.pow_le_pow_right (by omega) hk
  rw [h1] at h2 ⊢
  generalize 2 ^ k = A at *
  generalize 2 ^ r = B at *
  omega
theorem digitH_parts (r : Nat) (l : List (Int × Int)) : ∀ i j, digitH (partsL r l i) j = if j < i then (l.drop (1 + (2 ^ r - 2 ^ (j + 1)))).take (2 ^ j) else []
  | 0, j => by simp [partsL, digitH_nil]
  | i + 1, j => by
    show digitH (partsL r l i ++ [(i, (l.drop (1 + (2 ^ r - 2 ^ (i + 1)))).take (2 ^ i))]) j = _
    rw [digitH_snoc (partsL_rank r l i), digitH_parts r l i j]
    by_cases h : j = i
    · subst h; rw [if_pos rfl, if_pos (Nat.lt_succ_self _)]
    · rw [if_neg h]
      by_cases q : j < i
      · rw [if_pos q, if_pos (by omega)]
      · rw [if_neg q, if_neg (by omega)]
theorem digitH_partD (r : Nat) (l : List (Int × Int)) (j : Nat) : digitH (partsL r l r) j = partD r l j := digitH_parts r l r j

/-- A slice's beginning, and what is behind it. -/
theorem RdAt.cut {w : World} {blk off : Nat} {xs : List (Int × Int)} (h : RdAt w blk off xs.toArray) (m : Nat) : RdAt w blk off (xs.take m).toArray ∧ RdAt w blk (off + m * 2) (xs.drop m).toArray := by
  refine ⟨⟨h.1, fun i hi => ?_⟩, ⟨h.1, fun i hi => ?_⟩⟩
  · have hi' : i < (xs.take m).length := by simpa using hi
    have hl : i < xs.length := by rw [List.length_take] at hi'; omega
    have e : (xs.take m).toArray[i]! = xs.toArray[i]! := by
      rw [getElem!_pos _ i hi, getElem!_pos _ i (by simpa using hl)]; simp
    rw [e]; exact h.2 i (by simpa using hl)
  · have hi' : i < (xs.drop m).length := by simpa using hi
    have hl : m + i < xs.length := by rw [List.length_drop] at hi'; omega
    have e : (xs.drop m).toArray[i]! = xs.toArray[m + i]! := by
      rw [getElem!_pos _ i hi, getElem!_pos _ (m + i) (by simpa using hl)]; simp
    rw [e]
    have := h.2 (m + i) (by simpa using hl)
    exact ⟨by rw [show off + m * 2 + i * 2 = off + (m + i) * 2 by omega]; exact this.1, by rw [show off + m * 2 + i * 2 + 1 = off + (m + i) * 2 + 1 by omega]; exact this.2⟩

/-- Of what is left a tree is taken. -/
theorem rest_take {w : World} {p : Option Addr} {m c r k : Nat} {l : List (Int × Int)} (hk : k < r) (hl : l.length = 2 ^ r) (h : Sl w (.slice p m c) (restD r l (k + 1)).toArray) :
    ∃ b o, p = some ⟨b, o, none⟩ ∧ m = 2 ^ (k + 1) - 1 ∧ m ≤ c ∧ Sl w (.slice (some ⟨b, o, none⟩) (2 ^ k) c) (partD r l k).toArray ∧ Sl w (.slice (some ⟨b, o + 2 ^ k * 2, none⟩) (m - 2 ^ k) (c - 2 ^ k)) (restD r l k).toArray ∧ (m = 2 ^ k → ∀ q c', Sl w (.slice q 0 c') (restD r l k).toArray) := by
  have h1 : 2 ^ (k + 1) = 2 ^ k + 2 ^ k := by rw [Nat.pow_succ]; omega
  have h2 := two_pos k
  have hlen : (restD r l (k + 1)).length = 2 ^ (k + 1) - 1 := by rw [restD_len hl, Nat.min_eq_right (show k + 1 ≤ r from hk)]
  have hlen' : (restD r l k).length = 2 ^ k - 1 := by rw [restD_len hl, Nat.min_eq_right (by omega)]
  obtain ⟨p', c', e, hc, h0 | ⟨b, o, rfl, hr⟩⟩ := h
  · rw [List.size_toArray, hlen] at h0; omega
  · rw [List.size_toArray, hlen] at e hc
    simp only [Value.slice.injEq] at e
    obtain ⟨rfl, rfl, rfl⟩ := e
    obtain ⟨r1, r2⟩ := hr.cut (2 ^ k)
    rw [restD_take k hk] at r1
    rw [restD_drop k hk] at r2
    have hp : (partD r l k).length = 2 ^ k := by rw [← restD_take k hk, List.length_take, hlen]; omega
    refine ⟨b, o, rfl, rfl, hc, ?_, ?_, fun e q c2 => Sl.empty w q 0 c2 _ (by rw [hlen']; omega) rfl⟩
    · have := Sl.of_rd (cap := c) r1 (by rw [List.size_toArray, hp]; omega)
      rw [List.size_toArray, hp] at this; exact this
    · have := Sl.of_rd (cap := c - 2 ^ k) r2 (by rw [List.size_toArray, hlen']; omega)
      rw [List.size_toArray, hlen'] at this
      rw [show 2 ^ (k + 1) - 1 - 2 ^ k = 2 ^ k - 1 by omega]
      exact this
theorem rest_none {w : World} {p : Option Addr} {m c r k : Nat} {l : List (Int × Int)} (hk : ¬ k < r) (hl : l.length = 2 ^ r) (h : Sl w (.slice p m c) (restD r l (k + 1)).toArray) : m < 2 ^ k ∧ Sl w (.slice p m c) (restD r l k).toArray := by
  rw [restD_skip r l k (by omega)] at h
  refine ⟨?_, h⟩
  obtain ⟨p', c', e, _⟩ := h
  simp only [Value.slice.injEq, List.size_toArray] at e
  rw [restD_len hl, Nat.min_eq_left (by omega)] at e
  have h1 : 2 ^ r ≤ 2 ^ k := Nat.pow_le_pow_right (by omega) (by omega)
  have h2 := two_pos r
  omega
/-- The parts of the ranks k and above. -/
def fromD (r : Nat) (l : List (Int × Int)) (k j : Nat) : List (Int × Int) := if k ≤ j then partD r l j else []
theorem DgAt.took {w : World} {d : List SlV} {r k : Nat} {l : List (Int × Int)} {s : SlV} (h : DgAt w d (fromD r l (k + 1))) (hs : Sl w (.slice s.1 s.2.1 s.2.2) (partD r l k).toArray) : DgAt w (d.set k s) (fromD r l k) :=
  (h.set (r := k) hs).congr fun j _ => by
    unfold fromD
    by_cases q : j = k
    · subst q; rw [if_pos rfl, if_pos (Nat.le_refl _)]
    · rw [if_neg q]
      by_cases z : k + 1 ≤ j
      · rw [if_pos z, if_pos (by omega)]
      · rw [if_neg z, if_neg (by omega)]
theorem DgAt.skipped {w : World} {d : List SlV} {r k : Nat} {l : List (Int × Int)} (h : DgAt w d (fromD r l (k + 1))) (hk : ¬ k < r) : DgAt w d (fromD r l k) :=
  h.congr fun j _ => by
    unfold fromD
    by_cases z : k + 1 ≤ j
    · rw [if_pos z, if_pos (by omega)]
    · rw [if_neg z]
      by_cases q : k ≤ j
      · rw [if_pos q]; unfold partD; rw [if_neg (by omega)]
      · rw [if_neg q]

set_option maxHeartbeats 16000000 in
set_option maxRecDepth 8000 in
theorem below_A (blk off n cap r : Nat) (l : List (Int × Int)) (w : World) (hr : r ≤ 5) (hn0 : 0 < n) (hn : n ≤ 1000) (hcap : n ≤ cap) (HC : cap = 1) (HN : Hid (l.length = n)) (HL : Hid (l.length = 2 ^ r)) :
    Calls Tryd.prog 40 #[.slice (some ⟨blk, off, none⟩) n cap] w fun e w' => ∃ d, e = .returned (agV d) ∧ DgAt w d (partD r l) ∧ Below w.heap.size w w' := by
  have hz1 : (1 : Int) ≤ (n : Int) := by omega
  subst HC
  obtain rfl : n = 1 := by omega
  have HS0 : Hid (Sl w (.slice (some ⟨blk, off, none⟩) 0 0) (restD r l 6).toArray) := by
    show Sl _ _ _
    rw [restD_top r l 6 (by omega)]
    exact Sl.empty w _ 0 0 _ (by rw [List.length_drop, HN.out]) rfl
  go_enter Tryd.func40, Tryd.ntmps40
  go_wp2
  go_loopg [4, 5] 6 (fun gg v4 v5 wr => ∃ (k : Nat) (p : Option Addr) (m c : Nat) (z : Int) (d : List SlV), v4 = .slice p m c ∧ v5 = .int .i64 z ∧ z + 1 = (k : Int) ∧ k ≤ 6 ∧ k ≤ gg ∧ Hid (Sl w (.slice p m c) (restD r l k).toArray) ∧ Hid (WrE ES wr (w.heap.size + 1) 0 d) ∧ Hid (WrE ES wr w.heap.size 0 (List.replicate 6 (none, 0, 0))) ∧ Hid (DgAt w d (fromD r l k)) ∧ Hid (Below w.heap.size w wr))
  case atStart => obtain ⟨a1, a2, a3⟩ := new_two w 62; exact ⟨6, _, _, _, 5, _, rfl, rfl, by omega, Nat.le_refl _, Nat.le_refl _, HS0, a1, a2, (DgAt.start w).congr fun j hj => by unfold fromD; rw [if_neg (by omega)], a3⟩
  case round =>
    obtain ⟨k, p, m, c, z, d, rfl, rfl, hz, hk, hg, HS, HW, HO, HD, HB⟩ := hrel
    have hB : w.heap.size ≤ wr.heap.size := HB.out.size
    have hlw : w.heap.size + 1 < wr.heap.size := HW.out.lt
    have hk7 : k = 0 ∨ k = 1 ∨ k = 2 ∨ k = 3 ∨ k = 4 ∨ k = 5 ∨ k = 6 := by omega
    rcases hk7 with rfl | rfl | rfl | rfl | rfl | rfl | rfl
    · obtain rfl : z = -1 := by omega
      have HDE : Hid (DgAt w d (partD r l)) := HD.out.congr fun j _ => by unfold fromD; rw [if_pos (Nat.zero_le _)]
      obtain ⟨s0, s1, s2, s3, s4, s5, rfl⟩ := six HD.out.1
      obtain ⟨⟨c0, c1, c2, c3, c4, c5⟩, _⟩ := HW.out.six
      obtain ⟨⟨d0, d1, d2, d3, d4, d5⟩, ⟨f0, f1, f2, f3, f4, f5⟩⟩ := HO.out.six
      clear HD HS
      go_wp2
      refine bodyPost_ret (by simp [results, Tryd.results40, go_sem, d0, d1, d2, d3, d4, d5]; try rfl) rfl ?_
      exact ⟨_, rfl, HDE.out, below_six HB.out (Nat.le_refl _) _ _ _ _ _ _⟩
    · obtain rfl : z = 0 := by omega
      by_cases hkr : 0 < r
      · obtain ⟨b, o, rfl, hm, hmc, q1, q2, q3⟩ := rest_take hkr HL.out HS.out
        have hm' : m = 1 := hm
        have p1 : Sl w (.slice (some ⟨b, o, none⟩) 1 c) (partD r l 0).toArray := q1
        have p2 : Sl w (.slice (some ⟨b, o + 2, none⟩) (m - 1) (c - 1)) (restD r l 0).toArray := q2
        have p3 : m = 1 → ∀ q c', Sl w (.slice q 0 c') (restD r l 0).toArray := q3
        clear q1 q2 q3 hm
        subst hm'
        have q1 := p1
        have q2 : Sl w (.slice (some ⟨b, o + 2, none⟩) 0 (c - 1)) (restD r l 0).toArray := p2
        have q3 := p3
        clear p1 p2 p3
        obtain ⟨s0, e0, _⟩ := HD.out.2 0 (by omega)
        obtain ⟨k0, k1⟩ := HW.out.row e0
        by_cases hc1 : c = 1
        · subst hc1
          have HD' : Hid (DgAt w (d.set 0 (some ⟨b, o, none⟩, 1, 1)) (fromD r l 0)) := HD.out.took (s := (some ⟨b, o, none⟩, 1, 1)) q1
          have HS' : Hid (Sl w (.slice (some ⟨b, o, none⟩) 0 0) (restD r l 0).toArray) := q3 rfl _ _
          have hgs : wr.grownBy (wr.setCell ⟨w.heap.size + 1, 0, none⟩ (.slice (some ⟨b, o, none⟩) 1 1)).drew (some (w.heap.size + 1)) := gb_drewN (gb_setCell wr ⟨w.heap.size + 1, 0, none⟩ (.slice (some ⟨b, o, none⟩) 1 1)) 1
          have HB' : Hid (Below w.heap.size w (wr.setCell ⟨w.heap.size + 1, 0, none⟩ (.slice (some ⟨b, o, none⟩) 1 1)).drew) := below_gb HB.out hgs (by omega) hB
          have HW' : Hid (WrE ES (wr.setCell ⟨w.heap.size + 1, 0, none⟩ (.slice (some ⟨b, o, none⟩) 1 1)).drew (w.heap.size + 1) 0 (d.set 0 (some ⟨b, o, none⟩, 1, 1))) := (HW.out.setRow (i := 0) (by rw [HD.out.1]; omega) (some ⟨b, o, none⟩, 1, 1)).drewN 1
          have HO' : Hid (WrE ES (wr.setCell ⟨w.heap.size + 1, 0, none⟩ (.slice (some ⟨b, o, none⟩) 1 1)).drew w.heap.size 0 (List.replicate 6 (none, 0, 0))) := HO.out.kept hgs (fun e => by have := Option.some.inj e; omega)
          clear q1 q2 q3 e0 HD hgs HS
          go_wp2_with fail
          go_region
          go_wp2
          go_roundg 0
          case measure => omega
          case rel => exact ⟨0, _, _, _, -1, _, rfl, rfl, by omega, by omega, Nat.le_refl _, HS', HW', HO', HD', HB'⟩
        · have HD' : Hid (DgAt w (d.set 0 (some ⟨b, o, none⟩, 1, c)) (fromD r l 0)) := HD.out.took (s := (some ⟨b, o, none⟩, 1, c)) q1
          have HS' : Hid (Sl w (.slice (some ⟨b, o + 2, none⟩) 0 (c - 1)) (restD r l 0).toArray) := q2
          have hgs : wr.grownBy (wr.setCell ⟨w.heap.size + 1, 0, none⟩ (.slice (some ⟨b, o, none⟩) 1 c)).drew (some (w.heap.size + 1)) := gb_drewN (gb_setCell wr ⟨w.heap.size + 1, 0, none⟩ (.slice (some ⟨b, o, none⟩) 1 c)) 1
          have HB' : Hid (Below w.heap.size w (wr.setCell ⟨w.heap.size + 1, 0, none⟩ (.slice (some ⟨b, o, none⟩) 1 c)).drew) := below_gb HB.out hgs (by omega) hB
          have HW' : Hid (WrE ES (wr.setCell ⟨w.heap.size + 1, 0, none⟩ (.slice (some ⟨b, o, none⟩) 1 c)).drew (w.heap.size + 1) 0 (d.set 0 (some ⟨b, o, none⟩, 1, c))) := (HW.out.setRow (i := 0) (by rw [HD.out.1]; omega) (some ⟨b, o, none⟩, 1, c)).drewN 1
          have HO' : Hid (WrE ES (wr.setCell ⟨w.heap.size + 1, 0, none⟩ (.slice (some ⟨b, o, none⟩) 1 c)).drew w.heap.size 0 (List.replicate 6 (none, 0, 0))) := HO.out.kept hgs (fun e => by have := Option.some.inj e; omega)
          clear q1 q2 q3 e0 HD hgs HS
          go_wp2_with fail
          go_region
          go_wp2
          go_roundg 0
          case measure => omega
          case rel => exact ⟨0, _, _, _, -1, _, rfl, rfl, by omega, by omega, Nat.le_refl _, HS', HW', HO', HD', HB'⟩
      · obtain ⟨hm, q1⟩ := rest_none hkr HL.out HS.out
        have HS' : Hid (Sl w (.slice p m c) (restD r l 0).toArray) := q1
        have HD' : Hid (DgAt w d (fromD r l 0)) := HD.out.skipped hkr
        have hmz : ¬ (1 : Int) ≤ (m : Int) := by omega
        clear HD HS q1
        go_wp2
        go_roundg 0
        case measure => omega
        case rel => exact ⟨0, _, _, _, -1, _, rfl, rfl, by omega, by omega, Nat.le_refl _, HS', HW, HO, HD', HB⟩
    · obtain rfl : z = 1 := by omega
      by_cases hkr : 1 < r
      · obtain ⟨b, o, rfl, hm, hmc, q1, q2, q3⟩ := rest_take hkr HL.out HS.out
        have hm' : m = 3 := hm
        have p1 : Sl w (.slice (some ⟨b, o, none⟩) 2 c) (partD r l 1).toArray := q1
        have p2 : Sl w (.slice (some ⟨b, o + 4, none⟩) (m - 2) (c - 2)) (restD r l 1).toArray := q2
        have p3 : m = 2 → ∀ q c', Sl w (.slice q 0 c') (restD r l 1).toArray := q3
        clear q1 q2 q3 hm
        subst hm'
        have q1 := p1
        have q2 : Sl w (.slice (some ⟨b, o + 4, none⟩) 1 (c - 2)) (restD r l 1).toArray := p2
        have q3 := p3
        clear p1 p2 p3
        obtain ⟨s0, e0, _⟩ := HD.out.2 1 (by omega)
        obtain ⟨k0, k1⟩ := HW.out.row e0
        have HD' : Hid (DgAt w (d.set 1 (some ⟨b, o, none⟩, 2, c)) (fromD r l 1)) := HD.out.took (s := (some ⟨b, o, none⟩, 2, c)) q1
        have HS' : Hid (Sl w (.slice (some ⟨b, o + 4, none⟩) 1 (c - 2)) (restD r l 1).toArray) := q2
        have hgs : wr.grownBy (wr.setCell ⟨w.heap.size + 1, 1, none⟩ (.slice (some ⟨b, o, none⟩) 2 c)).drew (some (w.heap.size + 1)) := gb_drewN (gb_setCell wr ⟨w.heap.size + 1, 1, none⟩ (.slice (some ⟨b, o, none⟩) 2 c)) 1
        have HB' : Hid (Below w.heap.size w (wr.setCell ⟨w.heap.size + 1, 1, none⟩ (.slice (some ⟨b, o, none⟩) 2 c)).drew) := below_gb HB.out hgs (by omega) hB
        have HW' : Hid (WrE ES (wr.setCell ⟨w.heap.size + 1, 1, none⟩ (.slice (some ⟨b, o, none⟩) 2 c)).drew (w.heap.size + 1) 0 (d.set 1 (some ⟨b, o, none⟩, 2, c))) := (HW.out.setRow (i := 1) (by rw [HD.out.1]; omega) (some ⟨b, o, none⟩, 2, c)).drewN 1
        have HO' : Hid (WrE ES (wr.setCell ⟨w.heap.size + 1, 1, none⟩ (.slice (some ⟨b, o, none⟩) 2 c)).drew w.heap.size 0 (List.replicate 6 (none, 0, 0))) := HO.out.kept hgs (fun e => by have := Option.some.inj e; omega)
        clear q1 q2 q3 e0 HD hgs HS
        go_wp2_with fail
        go_region
        go_wp2
        go_roundg 1
        case measure => omega
        case rel => exact ⟨1, _, _, _, 0, _, rfl, rfl, by omega, by omega, Nat.le_refl _, HS', HW', HO', HD', HB'⟩
      · obtain ⟨hm, q1⟩ := rest_none hkr HL.out HS.out
        have HS' : Hid (Sl w (.slice p m c) (restD r l 1).toArray) := q1
        have HD' : Hid (DgAt w d (fromD r l 1)) := HD.out.skipped hkr
        have hmz : ¬ (2 : Int) ≤ (m : Int) := by omega
        clear HD HS q1
        go_wp2
        go_roundg 1
        case measure => omega
        case rel => exact ⟨1, _, _, _, 0, _, rfl, rfl, by omega, by omega, Nat.le_refl _, HS', HW, HO, HD', HB⟩
    · obtain rfl : z = 2 := by omega
      by_cases hkr : 2 < r
      · obtain ⟨b, o, rfl, hm, hmc, q1, q2, q3⟩ := rest_take hkr HL.out HS.out
        have hm' : m = 7 := hm
        have p1 : Sl w (.slice (some ⟨b, o, none⟩) 4 c) (partD r l 2).toArray := q1
        have p2 : Sl w (.slice (some ⟨b, o + 8, none⟩) (m - 4) (c - 4)) (restD r l 2).toArray := q2
        have p3 : m = 4 → ∀ q c', Sl w (.slice q 0 c') (restD r l 2).toArray := q3
        clear q1 q2 q3 hm
        subst hm'
        have q1 := p1
        have q2 : Sl w (.slice (some ⟨b, o + 8, none⟩) 3 (c - 4)) (restD r l 2).toArray := p2
        have q3 := p3
        clear p1 p2 p3
        obtain ⟨s0, e0, _⟩ := HD.out.2 2 (by omega)
        obtain ⟨k0, k1⟩ := HW.out.row e0
        have HD' : Hid (DgAt w (d.set 2 (some ⟨b, o, none⟩, 4, c)) (fromD r l 2)) := HD.out.took (s := (some ⟨b, o, none⟩, 4, c)) q1
        have HS' : Hid (Sl w (.slice (some ⟨b, o + 8, none⟩) 3 (c - 4)) (restD r l 2).toArray) := q2
        have hgs : wr.grownBy (wr.setCell ⟨w.heap.size + 1, 2, none⟩ (.slice (some ⟨b, o, none⟩) 4 c)).drew (some (w.heap.size + 1)) := gb_drewN (gb_setCell wr ⟨w.heap.size + 1, 2, none⟩ (.slice (some ⟨b, o, none⟩) 4 c)) 1
        have HB' : Hid (Below w.heap.size w (wr.setCell ⟨w.heap.size + 1, 2, none⟩ (.slice (some ⟨b, o, none⟩) 4 c)).drew) := below_gb HB.out hgs (by omega) hB
        have HW' : Hid (WrE ES (wr.setCell ⟨w.heap.size + 1, 2, none⟩ (.slice (some ⟨b, o, none⟩) 4 c)).drew (w.heap.size + 1) 0 (d.set 2 (some ⟨b, o, none⟩, 4, c))) := (HW.out.setRow (i := 2) (by rw [HD.out.1]; omega) (some ⟨b, o, none⟩, 4, c)).drewN 1
        have HO' : Hid (WrE ES (wr.setCell ⟨w.heap.size + 1, 2, none⟩ (.slice (some ⟨b, o, none⟩) 4 c)).drew w.heap.size 0 (List.replicate 6 (none, 0, 0))) := HO.out.kept hgs (fun e => by have := Option.some.inj e; omega)
        clear q1 q2 q3 e0 HD hgs HS
        go_wp2_with fail
        go_region
        go_wp2
        go_roundg 2
        case measure => omega
        case rel => exact ⟨2, _, _, _, 1, _, rfl, rfl, by omega, by omega, Nat.le_refl _, HS', HW', HO', HD', HB'⟩
      · obtain ⟨hm, q1⟩ := rest_none hkr HL.out HS.out
        have HS' : Hid (Sl w (.slice p m c) (restD r l 2).toArray) := q1
        have HD' : Hid (DgAt w d (fromD r l 2)) := HD.out.skipped hkr
        have hmz : ¬ (4 : Int) ≤ (m : Int) := by omega
        clear HD HS q1
        go_wp2
        go_roundg 2
        case measure => omega
        case rel => exact ⟨2, _, _, _, 1, _, rfl, rfl, by omega, by omega, Nat.le_refl _, HS', HW, HO, HD', HB⟩
    · obtain rfl : z = 3 := by omega
      by_cases hkr : 3 < r
      · obtain ⟨b, o, rfl, hm, hmc, q1, q2, q3⟩ := rest_take hkr HL.out HS.out
        have hm' : m = 15 := hm
        have p1 : Sl w (.slice (some ⟨b, o, none⟩) 8 c) (partD r l 3).toArray := q1
        have p2 : Sl w (.slice (some ⟨b, o + 16, none⟩) (m - 8) (c - 8)) (restD r l 3).toArray := q2
        have p3 : m = 8 → ∀ q c', Sl w (.slice q 0 c') (restD r l 3).toArray := q3
        clear q1 q2 q3 hm
        subst hm'
        have q1 := p1
        have q2 : Sl w (.slice (some ⟨b, o + 16, none⟩) 7 (c - 8)) (restD r l 3).toArray := p2
        have q3 := p3
        clear p1 p2 p3
        obtain ⟨s0, e0, _⟩ := HD.out.2 3 (by omega)
        obtain ⟨k0, k1⟩ := HW.out.row e0
        have HD' : Hid (DgAt w (d.set 3 (some ⟨b, o, none⟩, 8, c)) (fromD r l 3)) := HD.out.took (s := (some ⟨b, o, none⟩, 8, c)) q1
        have HS' : Hid (Sl w (.slice (some ⟨b, o + 16, none⟩) 7 (c - 8)) (restD r l 3).toArray) := q2
        have hgs : wr.grownBy (wr.setCell ⟨w.heap.size + 1, 3, none⟩ (.slice (some ⟨b, o, none⟩) 8 c)).drew (some (w.heap.size + 1)) := gb_drewN (gb_setCell wr ⟨w.heap.size + 1, 3, none⟩ (.slice (some ⟨b, o, none⟩) 8 c)) 1
        have HB' : Hid (Below w.heap.size w (wr.setCell ⟨w.heap.size + 1, 3, none⟩ (.slice (some ⟨b, o, none⟩) 8 c)).drew) := below_gb HB.out hgs (by omega) hB
        have HW' : Hid (WrE ES (wr.setCell ⟨w.heap.size + 1, 3, none⟩ (.slice (some ⟨b, o, none⟩) 8 c)).drew (w.heap.size + 1) 0 (d.set 3 (some ⟨b, o, none⟩, 8, c))) := (HW.out.setRow (i := 3) (by rw [HD.out.1]; omega) (some ⟨b, o, none⟩, 8, c)).drewN 1
        have HO' : Hid (WrE ES (wr.setCell ⟨w.heap.size + 1, 3, none⟩ (.slice (some ⟨b, o, none⟩) 8 c)).drew w.heap.size 0 (List.replicate 6 (none, 0, 0))) := HO.out.kept hgs (fun e => by have := Option.some.inj e; omega)
        clear q1 q2 q3 e0 HD hgs HS
        go_wp2_with fail
        go_region
        go_wp2
        go_roundg 3
        case measure => omega
        case rel => exact ⟨3, _, _, _, 2, _, rfl, rfl, by omega, by omega, Nat.le_refl _, HS', HW', HO', HD', HB'⟩
      · obtain ⟨hm, q1⟩ := rest_none hkr HL.out HS.out
        have HS' : Hid (Sl w (.slice p m c) (restD r l 3).toArray) := q1
        have HD' : Hid (DgAt w d (fromD r l 3)) := HD.out.skipped hkr
        have hmz : ¬ (8 : Int) ≤ (m : Int) := by omega
        clear HD HS q1
        go_wp2
        go_roundg 3
        case measure => omega
        case rel => exact ⟨3, _, _, _, 2, _, rfl, rfl, by omega, by omega, Nat.le_refl _, HS', HW, HO, HD', HB⟩
    · obtain rfl : z = 4 := by omega
      by_cases hkr : 4 < r
      · obtain ⟨b, o, rfl, hm, hmc, q1, q2, q3⟩ := rest_take hkr HL.out HS.out
        have hm' : m = 31 := hm
        have p1 : Sl w (.slice (some ⟨b, o, none⟩) 16 c) (partD r l 4).toArray := q1
        have p2 : Sl w (.slice (some ⟨b, o + 32, none⟩) (m - 16) (c - 16)) (restD r l 4).toArray := q2
        have p3 : m = 16 → ∀ q c', Sl w (.slice q 0 c') (restD r l 4).toArray := q3
        clear q1 q2 q3 hm
        subst hm'
        have q1 := p1
        have q2 : Sl w (.slice (some ⟨b, o + 32, none⟩) 15 (c - 16)) (restD r l 4).toArray := p2
        have q3 := p3
        clear p1 p2 p3
        obtain ⟨s0, e0, _⟩ := HD.out.2 4 (by omega)
        obtain ⟨k0, k1⟩ := HW.out.row e0
        have HD' : Hid (DgAt w (d.set 4 (some ⟨b, o, none⟩, 16, c)) (fromD r l 4)) := HD.out.took (s := (some ⟨b, o, none⟩, 16, c)) q1
        have HS' : Hid (Sl w (.slice (some ⟨b, o + 32, none⟩) 15 (c - 16)) (restD r l 4).toArray) := q2
        have hgs : wr.grownBy (wr.setCell ⟨w.heap.size + 1, 4, none⟩ (.slice (some ⟨b, o, none⟩) 16 c)).drew (some (w.heap.size + 1)) := gb_drewN (gb_setCell wr ⟨w.heap.size + 1, 4, none⟩ (.slice (some ⟨b, o, none⟩) 16 c)) 1
        have HB' : Hid (Below w.heap.size w (wr.setCell ⟨w.heap.size + 1, 4, none⟩ (.slice (some ⟨b, o, none⟩) 16 c)).drew) := below_gb HB.out hgs (by omega) hB
        have HW' : Hid (WrE ES (wr.setCell ⟨w.heap.size + 1, 4, none⟩ (.slice (some ⟨b, o, none⟩) 16 c)).drew (w.heap.size + 1) 0 (d.set 4 (some ⟨b, o, none⟩, 16, c))) := (HW.out.setRow (i := 4) (by rw [HD.out.1]; omega) (some ⟨b, o, none⟩, 16, c)).drewN 1
        have HO' : Hid (WrE ES (wr.setCell ⟨w.heap.size + 1, 4, none⟩ (.slice (some ⟨b, o, none⟩) 16 c)).drew w.heap.size 0 (List.replicate 6 (none, 0, 0))) := HO.out.kept hgs (fun e => by have := Option.some.inj e; omega)
        clear q1 q2 q3 e0 HD hgs HS
        go_wp2_with fail
        go_region
        go_wp2
        go_roundg 4
        case measure => omega
        case rel => exact ⟨4, _, _, _, 3, _, rfl, rfl, by omega, by omega, Nat.le_refl _, HS', HW', HO', HD', HB'⟩
      · obtain ⟨hm, q1⟩ := rest_none hkr HL.out HS.out
        have HS' : Hid (Sl w (.slice p m c) (restD r l 4).toArray) := q1
        have HD' : Hid (DgAt w d (fromD r l 4)) := HD.out.skipped hkr
        have hmz : ¬ (16 : Int) ≤ (m : Int) := by omega
        clear HD HS q1
        go_wp2
        go_roundg 4
        case measure => omega
        case rel => exact ⟨4, _, _, _, 3, _, rfl, rfl, by omega, by omega, Nat.le_refl _, HS', HW, HO, HD', HB⟩
    · obtain rfl : z = 5 := by omega
      have hkr : ¬ 5 < r := by omega
      obtain ⟨hm, q1⟩ := rest_none hkr HL.out HS.out
      have HS' : Hid (Sl w (.slice p m c) (restD r l 5).toArray) := q1
      have HD' : Hid (DgAt w d (fromD r l 5)) := HD.out.skipped hkr
      have hmz : ¬ (32 : Int) ≤ (m : Int) := by omega
      clear HD HS q1
      go_wp2
      go_roundg 5
      case measure => omega
      case rel => exact ⟨5, _, _, _, 4, _, rfl, rfl, by omega, by omega, Nat.le_refl _, HS', HW, HO, HD', HB⟩
set_option maxHeartbeats 16000000 in
set_option maxRecDepth 8000 in
theorem below_B (blk off n cap r : Nat) (l : List (Int × Int)) (w : World) (hr : r ≤ 5) (hn0 : 0 < n) (hn : n ≤ 1000) (hcap : n ≤ cap) (HC : cap ≠ 1) (HN : Hid (l.length = n)) (HL : Hid (l.length = 2 ^ r)) (HR : Hid (RdAt w blk off l.toArray)) :
    Calls Tryd.prog 40 #[.slice (some ⟨blk, off, none⟩) n cap] w fun e w' => ∃ d, e = .returned (agV d) ∧ DgAt w d (partD r l) ∧ Below w.heap.size w w' := by
  have hz1 : (1 : Int) ≤ (n : Int) := by omega
  have HS0 : Hid (Sl w (.slice (some ⟨blk, off + 2, none⟩) (n - 1) (cap - 1)) (restD r l 6).toArray) := by
    show Sl _ _ _
    rw [restD_top r l 6 (by omega)]
    obtain ⟨x, t, rfl⟩ := List.exists_cons_of_ne_nil (l := l) (fun e => by have := HN.out; rw [e] at this; simp at this; omega)
    exact Sl.tail HR.out (by have := HN.out; simpa using this) hcap
  go_enter Tryd.func40, Tryd.ntmps40
  go_wp2
  go_loopg [4, 5] 6 (fun gg v4 v5 wr => ∃ (k : Nat) (p : Option Addr) (m c : Nat) (z : Int) (d : List SlV), v4 = .slice p m c ∧ v5 = .int .i64 z ∧ z + 1 = (k : Int) ∧ k ≤ 6 ∧ k ≤ gg ∧ Hid (Sl w (.slice p m c) (restD r l k).toArray) ∧ Hid (WrE ES wr (w.heap.size + 1) 0 d) ∧ Hid (WrE ES wr w.heap.size 0 (List.replicate 6 (none, 0, 0))) ∧ Hid (DgAt w d (fromD r l k)) ∧ Hid (Below w.heap.size w wr))
  case atStart => obtain ⟨a1, a2, a3⟩ := new_two w 62; exact ⟨6, _, _, _, 5, _, rfl, rfl, by omega, Nat.le_refl _, Nat.le_refl _, HS0, a1, a2, (DgAt.start w).congr fun j hj => by unfold fromD; rw [if_neg (by omega)], a3⟩
  case round =>
    obtain ⟨k, p, m, c, z, d, rfl, rfl, hz, hk, hg, HS, HW, HO, HD, HB⟩ := hrel
    have hB : w.heap.size ≤ wr.heap.size := HB.out.size
    have hlw : w.heap.size + 1 < wr.heap.size := HW.out.lt
    have hk7 : k = 0 ∨ k = 1 ∨ k = 2 ∨ k = 3 ∨ k = 4 ∨ k = 5 ∨ k = 6 := by omega
    rcases hk7 with rfl | rfl | rfl | rfl | rfl | rfl | rfl
    · obtain rfl : z = -1 := by omega
      have HDE : Hid (DgAt w d (partD r l)) := HD.out.congr fun j _ => by unfold fromD; rw [if_pos (Nat.zero_le _)]
      obtain ⟨s0, s1, s2, s3, s4, s5, rfl⟩ := six HD.out.1
      obtain ⟨⟨c0, c1, c2, c3, c4, c5⟩, _⟩ := HW.out.six
      obtain ⟨⟨d0, d1, d2, d3, d4, d5⟩, ⟨f0, f1, f2, f3, f4, f5⟩⟩ := HO.out.six
      clear HD HS
      go_wp2
      refine bodyPost_ret (by simp [results, Tryd.results40, go_sem, d0, d1, d2, d3, d4, d5]; try rfl) rfl ?_
      exact ⟨_, rfl, HDE.out, below_six HB.out (Nat.le_refl _) _ _ _ _ _ _⟩
    · obtain rfl : z = 0 := by omega
      by_cases hkr : 0 < r
      · obtain ⟨b, o, rfl, hm, hmc, q1, q2, q3⟩ := rest_take hkr HL.out HS.out
        have hm' : m = 1 := hm
        have p1 : Sl w (.slice (some ⟨b, o, none⟩) 1 c) (partD r l 0).toArray := q1
        have p2 : Sl w (.slice (some ⟨b, o + 2, none⟩) (m - 1) (c - 1)) (restD r l 0).toArray := q2
        have p3 : m = 1 → ∀ q c', Sl w (.slice q 0 c') (restD r l 0).toArray := q3
        clear q1 q2 q3 hm
        subst hm'
        have q1 := p1
        have q2 : Sl w (.slice (some ⟨b, o + 2, none⟩) 0 (c - 1)) (restD r l 0).toArray := p2
        have q3 := p3
        clear p1 p2 p3
        obtain ⟨s0, e0, _⟩ := HD.out.2 0 (by omega)
        obtain ⟨k0, k1⟩ := HW.out.row e0
        by_cases hc1 : c = 1
        · subst hc1
          have HD' : Hid (DgAt w (d.set 0 (some ⟨b, o, none⟩, 1, 1)) (fromD r l 0)) := HD.out.took (s := (some ⟨b, o, none⟩, 1, 1)) q1
          have HS' : Hid (Sl w (.slice (some ⟨b, o, none⟩) 0 0) (restD r l 0).toArray) := q3 rfl _ _
          have hgs : wr.grownBy (wr.setCell ⟨w.heap.size + 1, 0, none⟩ (.slice (some ⟨b, o, none⟩) 1 1)).drew (some (w.heap.size + 1)) := gb_drewN (gb_setCell wr ⟨w.heap.size + 1, 0, none⟩ (.slice (some ⟨b, o, none⟩) 1 1)) 1
          have HB' : Hid (Below w.heap.size w (wr.setCell ⟨w.heap.size + 1, 0, none⟩ (.slice (some ⟨b, o, none⟩) 1 1)).drew) := below_gb HB.out hgs (by omega) hB
          have HW' : Hid (WrE ES (wr.setCell ⟨w.heap.size + 1, 0, none⟩ (.slice (some ⟨b, o, none⟩) 1 1)).drew (w.heap.size + 1) 0 (d.set 0 (some ⟨b, o, none⟩, 1, 1))) := (HW.out.setRow (i := 0) (by rw [HD.out.1]; omega) (some ⟨b, o, none⟩, 1, 1)).drewN 1
          have HO' : Hid (WrE ES (wr.setCell ⟨w.heap.size + 1, 0, none⟩ (.slice (some ⟨b, o, none⟩) 1 1)).drew w.heap.size 0 (List.replicate 6 (none, 0, 0))) := HO.out.kept hgs (fun e => by have := Option.some.inj e; omega)
          clear q1 q2 q3 e0 HD hgs HS
          go_wp2_with fail
          go_region
          go_wp2
          go_roundg 0
          case measure => omega
          case rel => exact ⟨0, _, _, _, -1, _, rfl, rfl, by omega, by omega, Nat.le_refl _, HS', HW', HO', HD', HB'⟩
        · have HD' : Hid (DgAt w (d.set 0 (some ⟨b, o, none⟩, 1, c)) (fromD r l 0)) := HD.out.took (s := (some ⟨b, o, none⟩, 1, c)) q1
          have HS' : Hid (Sl w (.slice (some ⟨b, o + 2, none⟩) 0 (c - 1)) (restD r l 0).toArray) := q2
          have hgs : wr.grownBy (wr.setCell ⟨w.heap.size + 1, 0, none⟩ (.slice (some ⟨b, o, none⟩) 1 c)).drew (some (w.heap.size + 1)) := gb_drewN (gb_setCell wr ⟨w.heap.size + 1, 0, none⟩ (.slice (some ⟨b, o, none⟩) 1 c)) 1
          have HB' : Hid (Below w.heap.size w (wr.setCell ⟨w.heap.size + 1, 0, none⟩ (.slice (some ⟨b, o, none⟩) 1 c)).drew) := below_gb HB.out hgs (by omega) hB
          have HW' : Hid (WrE ES (wr.setCell ⟨w.heap.size + 1, 0, none⟩ (.slice (some ⟨b, o, none⟩) 1 c)).drew (w.heap.size + 1) 0 (d.set 0 (some ⟨b, o, none⟩, 1, c))) := (HW.out.setRow (i := 0) (by rw [HD.out.1]; omega) (some ⟨b, o, none⟩, 1, c)).drewN 1
          have HO' : Hid (WrE ES (wr.setCell ⟨w.heap.size + 1, 0, none⟩ (.slice (some ⟨b, o, none⟩) 1 c)).drew w.heap.size 0 (List.replicate 6 (none, 0, 0))) := HO.out.kept hgs (fun e => by have := Option.some.inj e; omega)
          clear q1 q2 q3 e0 HD hgs HS
          go_wp2_with fail
          go_region
          go_wp2
          go_roundg 0
          case measure => omega
          case rel => exact ⟨0, _, _, _, -1, _, rfl, rfl, by omega, by omega, Nat.le_refl _, HS', HW', HO', HD', HB'⟩
      · obtain ⟨hm, q1⟩ := rest_none hkr HL.out HS.out
        have HS' : Hid (Sl w (.slice p m c) (restD r l 0).toArray) := q1
        have HD' : Hid (DgAt w d (fromD r l 0)) := HD.out.skipped hkr
        have hmz : ¬ (1 : Int) ≤ (m : Int) := by omega
        clear HD HS q1
        go_wp2
        go_roundg 0
        case measure => omega
        case rel => exact ⟨0, _, _, _, -1, _, rfl, rfl, by omega, by omega, Nat.le_refl _, HS', HW, HO, HD', HB⟩
    · obtain rfl : z = 1 := by omega
      by_cases hkr : 1 < r
      · obtain ⟨b, o, rfl, hm, hmc, q1, q2, q3⟩ := rest_take hkr HL.out HS.out
        have hm' : m = 3 := hm
        have p1 : Sl w (.slice (some ⟨b, o, none⟩) 2 c) (partD r l 1).toArray := q1
        have p2 : Sl w (.slice (some ⟨b, o + 4, none⟩) (m - 2) (c - 2)) (restD r l 1).toArray := q2
        have p3 : m = 2 → ∀ q c', Sl w (.slice q 0 c') (restD r l 1).toArray := q3
        clear q1 q2 q3 hm
        subst hm'
        have q1 := p1
        have q2 : Sl w (.slice (some ⟨b, o + 4, none⟩) 1 (c - 2)) (restD r l 1).toArray := p2
        have q3 := p3
        clear p1 p2 p3
        obtain ⟨s0, e0, _⟩ := HD.out.2 1 (by omega)
        obtain ⟨k0, k1⟩ := HW.out.row e0
        have HD' : Hid (DgAt w (d.set 1 (some ⟨b, o, none⟩, 2, c)) (fromD r l 1)) := HD.out.took (s := (some ⟨b, o, none⟩, 2, c)) q1
        have HS' : Hid (Sl w (.slice (some ⟨b, o + 4, none⟩) 1 (c - 2)) (restD r l 1).toArray) := q2
        have hgs : wr.grownBy (wr.setCell ⟨w.heap.size + 1, 1, none⟩ (.slice (some ⟨b, o, none⟩) 2 c)).drew (some (w.heap.size + 1)) := gb_drewN (gb_setCell wr ⟨w.heap.size + 1, 1, none⟩ (.slice (some ⟨b, o, none⟩) 2 c)) 1
        have HB' : Hid (Below w.heap.size w (wr.setCell ⟨w.heap.size + 1, 1, none⟩ (.slice (some ⟨b, o, none⟩) 2 c)).drew) := below_gb HB.out hgs (by omega) hB
        have HW' : Hid (WrE ES (wr.setCell ⟨w.heap.size + 1, 1, none⟩ (.slice (some ⟨b, o, none⟩) 2 c)).drew (w.heap.size + 1) 0 (d.set 1 (some ⟨b, o, none⟩, 2, c))) := (HW.out.setRow (i := 1) (by rw [HD.out.1]; omega) (some ⟨b, o, none⟩, 2, c)).drewN 1
        have HO' : Hid (WrE ES (wr.setCell ⟨w.heap.size + 1, 1, none⟩ (.slice (some ⟨b, o, none⟩) 2 c)).drew w.heap.size 0 (List.replicate 6 (none, 0, 0))) := HO.out.kept hgs (fun e => by have := Option.some.inj e; omega)
        clear q1 q2 q3 e0 HD hgs HS
        go_wp2_with fail
        go_region
        go_wp2
        go_roundg 1
        case measure => omega
        case rel => exact ⟨1, _, _, _, 0, _, rfl, rfl, by omega, by omega, Nat.le_refl _, HS', HW', HO', HD', HB'⟩
      · obtain ⟨hm, q1⟩ := rest_none hkr HL.out HS.out
        have HS' : Hid (Sl w (.slice p m c) (restD r l 1).toArray) := q1
        have HD' : Hid (DgAt w d (fromD r l 1)) := HD.out.skipped hkr
        have hmz : ¬ (2 : Int) ≤ (m : Int) := by omega
        clear HD HS q1
        go_wp2
        go_roundg 1
        case measure => omega
        case rel => exact ⟨1, _, _, _, 0, _, rfl, rfl, by omega, by omega, Nat.le_refl _, HS', HW, HO, HD', HB⟩
    · obtain rfl : z = 2 := by omega
      by_cases hkr : 2 < r
      · obtain ⟨b, o, rfl, hm, hmc, q1, q2, q3⟩ := rest_take hkr HL.out HS.out
        have hm' : m = 7 := hm
        have p1 : Sl w (.slice (some ⟨b, o, none⟩) 4 c) (partD r l 2).toArray := q1
        have p2 : Sl w (.slice (some ⟨b, o + 8, none⟩) (m - 4) (c - 4)) (restD r l 2).toArray := q2
        have p3 : m = 4 → ∀ q c', Sl w (.slice q 0 c') (restD r l 2).toArray := q3
        clear q1 q2 q3 hm
        subst hm'
        have q1 := p1
        have q2 : Sl w (.slice (some ⟨b, o + 8, none⟩) 3 (c - 4)) (restD r l 2).toArray := p2
        have q3 := p3
        clear p1 p2 p3
        obtain ⟨s0, e0, _⟩ := HD.out.2 2 (by omega)
        obtain ⟨k0, k1⟩ := HW.out.row e0
        have HD' : Hid (DgAt w (d.set 2 (some ⟨b, o, none⟩, 4, c)) (fromD r l 2)) := HD.out.took (s := (some ⟨b, o, none⟩, 4, c)) q1
        have HS' : Hid (Sl w (.slice (some ⟨b, o + 8, none⟩) 3 (c - 4)) (restD r l 2).toArray) := q2
        have hgs : wr.grownBy (wr.setCell ⟨w.heap.size + 1, 2, none⟩ (.slice (some ⟨b, o, none⟩) 4 c)).drew (some (w.heap.size + 1)) := gb_drewN (gb_setCell wr ⟨w.heap.size + 1, 2, none⟩ (.slice (some ⟨b, o, none⟩) 4 c)) 1
        have HB' : Hid (Below w.heap.size w (wr.setCell ⟨w.heap.size + 1, 2, none⟩ (.slice (some ⟨b, o, none⟩) 4 c)).drew) := below_gb HB.out hgs (by omega) hB
        have HW' : Hid (WrE ES (wr.setCell ⟨w.heap.size + 1, 2, none⟩ (.slice (some ⟨b, o, none⟩) 4 c)).drew (w.heap.size + 1) 0 (d.set 2 (some ⟨b, o, none⟩, 4, c))) := (HW.out.setRow (i := 2) (by rw [HD.out.1]; omega) (some ⟨b, o, none⟩, 4, c)).drewN 1
        have HO' : Hid (WrE ES (wr.setCell ⟨w.heap.size + 1, 2, none⟩ (.slice (some ⟨b, o, none⟩) 4 c)).drew w.heap.size 0 (List.replicate 6 (none, 0, 0))) := HO.out.kept hgs (fun e => by have := Option.some.inj e; omega)
        clear q1 q2 q3 e0 HD hgs HS
        go_wp2_with fail
        go_region
        go_wp2
        go_roundg 2
        case measure => omega
        case rel => exact ⟨2, _, _, _, 1, _, rfl, rfl, by omega, by omega, Nat.le_refl _, HS', HW', HO', HD', HB'⟩
      · obtain ⟨hm, q1⟩ := rest_none hkr HL.out HS.out
        have HS' : Hid (Sl w (.slice p m c) (restD r l 2).toArray) := q1
        have HD' : Hid (DgAt w d (fromD r l 2)) := HD.out.skipped hkr
        have hmz : ¬ (4 : Int) ≤ (m : Int) := by omega
        clear HD HS q1
        go_wp2
        go_roundg 2
        case measure => omega
        case rel => exact ⟨2, _, _, _, 1, _, rfl, rfl, by omega, by omega, Nat.le_refl _, HS', HW, HO, HD', HB⟩
    · obtain rfl : z = 3 := by omega
      by_cases hkr : 3 < r
      · obtain ⟨b, o, rfl, hm, hmc, q1, q2, q3⟩ := rest_take hkr HL.out HS.out
        have hm' : m = 15 := hm
        have p1 : Sl w (.slice (some ⟨b, o, none⟩) 8 c) (partD r l 3).toArray := q1
        have p2 : Sl w (.slice (some ⟨b, o + 16, none⟩) (m - 8) (c - 8)) (restD r l 3).toArray := q2
        have p3 : m = 8 → ∀ q c', Sl w (.slice q 0 c') (restD r l 3).toArray := q3
        clear q1 q2 q3 hm
        subst hm'
        have q1 := p1
        have q2 : Sl w (.slice (some ⟨b, o + 16, none⟩) 7 (c - 8)) (restD r l 3).toArray := p2
        have q3 := p3
        clear p1 p2 p3
        obtain ⟨s0, e0, _⟩ := HD.out.2 3 (by omega)
        obtain ⟨k0, k1⟩ := HW.out.row e0
        have HD' : Hid (DgAt w (d.set 3 (some ⟨b, o, none⟩, 8, c)) (fromD r l 3)) := HD.out.took (s := (some ⟨b, o, none⟩, 8, c)) q1
        have HS' : Hid (Sl w (.slice (some ⟨b, o + 16, none⟩) 7 (c - 8)) (restD r l 3).toArray) := q2
        have hgs : wr.grownBy (wr.setCell ⟨w.heap.size + 1, 3, none⟩ (.slice (some ⟨b, o, none⟩) 8 c)).drew (some (w.heap.size + 1)) := gb_drewN (gb_setCell wr ⟨w.heap.size + 1, 3, none⟩ (.slice (some ⟨b, o, none⟩) 8 c)) 1
        have HB' : Hid (Below w.heap.size w (wr.setCell ⟨w.heap.size + 1, 3, none⟩ (.slice (some ⟨b, o, none⟩) 8 c)).drew) := below_gb HB.out hgs (by omega) hB
        have HW' : Hid (WrE ES (wr.setCell ⟨w.heap.size + 1, 3, none⟩ (.slice (some ⟨b, o, none⟩) 8 c)).drew (w.heap.size + 1) 0 (d.set 3 (some ⟨b, o, none⟩, 8, c))) := (HW.out.setRow (i := 3) (by rw [HD.out.1]; omega) (some ⟨b, o, none⟩, 8, c)).drewN 1
        have HO' : Hid (WrE ES (wr.setCell ⟨w.heap.size + 1, 3, none⟩ (.slice (some ⟨b, o, none⟩) 8 c)).drew w.heap.size 0 (List.replicate 6 (none, 0, 0))) := HO.out.kept hgs (fun e => by have := Option.some.inj e; omega)
        clear q1 q2 q3 e0 HD hgs HS
        go_wp2_with fail
        go_region
        go_wp2
        go_roundg 3
        case measure => omega
        case rel => exact ⟨3, _, _, _, 2, _, rfl, rfl, by omega, by omega, Nat.le_refl _, HS', HW', HO', HD', HB'⟩
      · obtain ⟨hm, q1⟩ := rest_none hkr HL.out HS.out
        have HS' : Hid (Sl w (.slice p m c) (restD r l 3).toArray) := q1
        have HD' : Hid (DgAt w d (fromD r l 3)) := HD.out.skipped hkr
        have hmz : ¬ (8 : Int) ≤ (m : Int) := by omega
        clear HD HS q1
        go_wp2
        go_roundg 3
        case measure => omega
        case rel => exact ⟨3, _, _, _, 2, _, rfl, rfl, by omega, by omega, Nat.le_refl _, HS', HW, HO, HD', HB⟩
    · obtain rfl : z = 4 := by omega
      by_cases hkr : 4 < r
      · obtain ⟨b, o, rfl, hm, hmc, q1, q2, q3⟩ := rest_take hkr HL.out HS.out
        have hm' : m = 31 := hm
        have p1 : Sl w (.slice (some ⟨b, o, none⟩) 16 c) (partD r l 4).toArray := q1
        have p2 : Sl w (.slice (some ⟨b, o + 32, none⟩) (m - 16) (c - 16)) (restD r l 4).toArray := q2
        have p3 : m = 16 → ∀ q c', Sl w (.slice q 0 c') (restD r l 4).toArray := q3
        clear q1 q2 q3 hm
        subst hm'
        have q1 := p1
        have q2 : Sl w (.slice (some ⟨b, o + 32, none⟩) 15 (c - 16)) (restD r l 4).toArray := p2
        have q3 := p3
        clear p1 p2 p3
        obtain ⟨s0, e0, _⟩ := HD.out.2 4 (by omega)
        obtain ⟨k0, k1⟩ := HW.out.row e0
        have HD' : Hid (DgAt w (d.set 4 (some ⟨b, o, none⟩, 16, c)) (fromD r l 4)) := HD.out.took (s := (some ⟨b, o, none⟩, 16, c)) q1
        have HS' : Hid (Sl w (.slice (some ⟨b, o + 32, none⟩) 15 (c - 16)) (restD r l 4).toArray) := q2
        have hgs : wr.grownBy (wr.setCell ⟨w.heap.size + 1, 4, none⟩ (.slice (some ⟨b, o, none⟩) 16 c)).drew (some (w.heap.size + 1)) := gb_drewN (gb_setCell wr ⟨w.heap.size + 1, 4, none⟩ (.slice (some ⟨b, o, none⟩) 16 c)) 1
        have HB' : Hid (Below w.heap.size w (wr.setCell ⟨w.heap.size + 1, 4, none⟩ (.slice (some ⟨b, o, none⟩) 16 c)).drew) := below_gb HB.out hgs (by omega) hB
        have HW' : Hid (WrE ES (wr.setCell ⟨w.heap.size + 1, 4, none⟩ (.slice (some ⟨b, o, none⟩) 16 c)).drew (w.heap.size + 1) 0 (d.set 4 (some ⟨b, o, none⟩, 16, c))) := (HW.out.setRow (i := 4) (by rw [HD.out.1]; omega) (some ⟨b, o, none⟩, 16, c)).drewN 1
        have HO' : Hid (WrE ES (wr.setCell ⟨w.heap.size + 1, 4, none⟩ (.slice (some ⟨b, o, none⟩) 16 c)).drew w.heap.size 0 (List.replicate 6 (none, 0, 0))) := HO.out.kept hgs (fun e => by have := Option.some.inj e; omega)
        clear q1 q2 q3 e0 HD hgs HS
        go_wp2_with fail
        go_region
        go_wp2
        go_roundg 4
        case measure => omega
        case rel => exact ⟨4, _, _, _, 3, _, rfl, rfl, by omega, by omega, Nat.le_refl _, HS', HW', HO', HD', HB'⟩
      · obtain ⟨hm, q1⟩ := rest_none hkr HL.out HS.out
        have HS' : Hid (Sl w (.slice p m c) (restD r l 4).toArray) := q1
        have HD' : Hid (DgAt w d (fromD r l 4)) := HD.out.skipped hkr
        have hmz : ¬ (16 : Int) ≤ (m : Int) := by omega
        clear HD HS q1
        go_wp2
        go_roundg 4
        case measure => omega
        case rel => exact ⟨4, _, _, _, 3, _, rfl, rfl, by omega, by omega, Nat.le_refl _, HS', HW, HO, HD', HB⟩
    · obtain rfl : z = 5 := by omega
      have hkr : ¬ 5 < r := by omega
      obtain ⟨hm, q1⟩ := rest_none hkr HL.out HS.out
      have HS' : Hid (Sl w (.slice p m c) (restD r l 5).toArray) := q1
      have HD' : Hid (DgAt w d (fromD r l 5)) := HD.out.skipped hkr
      have hmz : ¬ (32 : Int) ≤ (m : Int) := by omega
      clear HD HS q1
      go_wp2
      go_roundg 5
      case measure => omega
      case rel => exact ⟨5, _, _, _, 4, _, rfl, rfl, by omega, by omega, Nat.le_refl _, HS', HW, HO, HD', HB⟩
theorem below_any (v : Value) (r : Nat) (l : List (Int × Int)) (w : World) (hs : Sl w v l.toArray) (hr : r ≤ 5) (hl : l.length = 2 ^ r) :
    Calls Tryd.prog 40 #[v] w fun e w' => ∃ d, e = .returned (agV d) ∧ DgAt w d (partD r l) ∧ Below w.heap.size w w' := by
  have h32 : 2 ^ r ≤ 2 ^ 5 := Nat.pow_le_pow_right (by omega) hr
  have hp := two_pos r
  obtain ⟨p, c, rfl, hc, h0 | ⟨blk, off, rfl, hrd⟩⟩ := hs
  · rw [List.size_toArray, hl] at h0; omega
  · rw [List.size_toArray] at hc ⊢
    by_cases h1 : c = 1
    · exact below_A blk off _ c r l w hr (by omega) (by omega) hc h1 rfl hl
    · exact below_B blk off _ c r l w hr (by omega) (by omega) hc h1 rfl hl hrd
#print axioms below_any
end Go.Proofs.YtmkjalpgeljnkaaDoor
