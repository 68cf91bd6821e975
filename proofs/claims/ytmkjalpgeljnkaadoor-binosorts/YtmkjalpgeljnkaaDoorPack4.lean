/-
  Texts that the proof leans on, packed: DBelow, DSize, DFalls, Copy, DCheck, DRead, DLink.
-/
import Derived.Test.YtmkjalpgeljnkaaDoorPack2
import Derived.Test.YtmkjalpgeljnkaaDoorPack3
import Derived.Deep.RegionHeld3
import Derived.Test.YtmkjalpgeljnkaaDoorPack1
import Derived.OwnWalk
import Derived.Laws.IdiomCopy

/-
  bino.below: the trees below a root, by rank.
-/
namespace Go.Proofs.YtmkjalpgeljnkaaDoor
open Go.RowKit Go.Sort Go.Proofs

/-- The tree of rank j below the root of a tree of rank r, or none. -/
def partD (r : Nat) (l : List (Int × Int)) (j : Nat) : List (Int × Int) := if j < r then (l.drop (1 + (2 ^ r - 2 ^ (j + 1)))).take (2 ^ j) else []
/-- What is left of it when the trees of the ranks k and above are taken. -/
def restD (r : Nat) (l : List (Int × Int)) (k : Nat) : List (Int × Int) := l.drop (1 + (2 ^ r - 2 ^ (min r k)))
theorem restD_len {r : Nat} {l : List (Int × Int)} (h : l.length = 2 ^ r) (k : Nat) : (restD r l k).length = 2 ^ (min r k) - 1 := by
  have h1 : 2 ^ (min r k) ≤ 2 ^ r := Nat.pow_le_pow_right (by omega) (Nat.min_le_left _ _)
  have h2 := two_pos (min r k)
  unfold restD
  rw [List.length_drop, h]
  omega
theorem restD_top (r : Nat) (l : List (Int × Int)) (k : Nat) (hk : r ≤ k) : restD r l k = l.drop 1 := by
  unfold restD
  rw [Nat.min_eq_left hk, Nat.sub_self, Nat.add_zero]
theorem restD_skip (r : Nat) (l : List (Int × Int)) (k : Nat) (hk : r ≤ k) : restD r l (k + 1) = restD r l k := by
  rw [restD_top r l k hk, restD_top r l (k + 1) (by omega)]
theorem restD_take {r : Nat} {l : List (Int × Int)} (k : Nat) (hk : k < r) : (restD r l (k + 1)).take (2 ^ k) = partD r l k := by
  unfold restD partD
  rw [if_pos hk, Nat.min_eq_right (show k + 1 ≤ r from hk)]
theorem restD_drop {r : Nat} {l : List (Int × Int)} (k : Nat) (hk : k < r) : (restD r l (k + 1)).drop (2 ^ k) = restD r l k := by
  unfold restD
  rw [Nat.min_eq_right (show k + 1 ≤ r from hk), Nat.min_eq_right (by omega), List.drop_drop]
  congr 1
  have h1 : 2 ^ (k + 1) = 2 ^ k + 2 ^ k := by rw [Nat.pow_succ]; omega
  have h2 : 2 ^ (k + 1) ≤ 2 ^ r := Nat.pow_le_pow_right (by omega) hk
  rw [h1] at h2 ⊢
  generalize 2 ^ k = A at *
  generalize 2 ^ r = B at *
  omega
theorem digitH_parts (r : Nat) (l : List (Int × Int)) : ∀ i j, digitH (partsL r l i) j = if j < i then (l.drop (1 + (2 ^ r - 2 ^ (j + 1)))).take (2 ^ j) else []
  | 0, j => by simp [partsL, digitH_nil]
  | i + 1, j => by
    show digitH (partsL r l i ++ [(i, (l.drop (1 + (2 ^ r - 2 ^ (i + 1)))).take (2 ^ i))]) j = _
    rw [digitH_snoc (partsL_rank r l i), digitH_parts r l i j]
    by_cases h : j = i
    · subst h; rw [if_pos rfl, if_pos (Nat.lt_succ_self _)]
    · rw [if_neg h]
      by_cases q : j < i
      · rw [if_pos q, if_pos (by omega)]
      · rw [if_neg q, if_neg (by omega)]
theorem digitH_partD (r : Nat) (l : List (Int × Int)) (j : Nat) : digitH (partsL r l r) j = partD r l j := digitH_parts r l r j

/-- A slice's beginning, and what is behind it. -/
theorem RdAt.cut {w : World} {blk off : Nat} {xs : List (Int × Int)} (h : RdAt w blk off xs.toArray) (m : Nat) : RdAt w blk off (xs.take m).toArray ∧ RdAt w blk (off + m * 2) (xs.drop m).toArray := by
  refine ⟨⟨h.1, fun i hi => ?_⟩, ⟨h.1, fun i hi => ?_⟩⟩
  · have hi' : i < (xs.take m).length := by simpa using hi
    have hl : i < xs.length := by rw [List.length_take] at hi'; omega
    have e : (xs.take m).toArray[i]! = xs.toArray[i]! := by
      rw [getElem!_pos _ i hi, getElem!_pos _ i (by simpa using hl)]; simp
    rw [e]; exact h.2 i (by simpa using hl)
  · have hi' : i < (xs.drop m).length := by simpa using hi
    have hl : m + i < xs.length := by rw [List.length_drop] at hi'; omega
    have e : (xs.drop m).toArray[i]! = xs.toArray[m + i]! := by
      rw [getElem!_pos _ i hi, getElem!_pos _ (m + i) (by simpa using hl)]; simp
    rw [e]
    have := h.2 (m + i) (by simpa using hl)
    exact ⟨by rw [show off + m * 2 + i * 2 = off + (m + i) * 2 by omega]; exact this.1, by rw [show off + m * 2 + i * 2 + 1 = off + (m + i) * 2 + 1 by omega]; exact this.2⟩

/-- Of what is left a tree is taken. -/
theorem rest_take {w : World} {p : Option Addr} {m c r k : Nat} {l : List (Int × Int)} (hk : k < r) (hl : l.length = 2 ^ r) (h : Sl w (.slice p m c) (restD r l (k + 1)).toArray) :
    ∃ b o, p = some ⟨b, o, none⟩ ∧ m = 2 ^ (k + 1) - 1 ∧ m ≤ c ∧ Sl w (.slice (some ⟨b, o, none⟩) (2 ^ k) c) (partD r l k).toArray ∧ Sl w (.slice (some ⟨b, o + 2 ^ k * 2, none⟩) (m - 2 ^ k) (c - 2 ^ k)) (restD r l k).toArray ∧ (m = 2 ^ k → ∀ q c', Sl w (.slice q 0 c') (restD r l k).toArray) := by
  have h1 : 2 ^ (k + 1) = 2 ^ k + 2 ^ k := by rw [Nat.pow_succ]; omega
  have h2 := two_pos k
  have hlen : (restD r l (k + 1)).length = 2 ^ (k + 1) - 1 := by rw [restD_len hl, Nat.min_eq_right (show k + 1 ≤ r from hk)]
  have hlen' : (restD r l k).length = 2 ^ k - 1 := by rw [restD_len hl, Nat.min_eq_right (by omega)]
  obtain ⟨p', c', e, hc, h0 | ⟨b, o, rfl, hr⟩⟩ := h
  · rw [List.size_toArray, hlen] at h0; omega
  · rw [List.size_toArray, hlen] at e hc
    simp only [Value.slice.injEq] at e
    obtain ⟨rfl, rfl, rfl⟩ := e
    obtain ⟨r1, r2⟩ := hr.cut (2 ^ k)
    rw [restD_take k hk] at r1
    rw [restD_drop k hk] at r2
    have hp : (partD r l k).length = 2 ^ k := by rw [← restD_take k hk, List.length_take, hlen]; omega
    refine ⟨b, o, rfl, rfl, hc, ?_, ?_, fun e q c2 => Sl.empty w q 0 c2 _ (by rw [hlen']; omega) rfl⟩
    · have := Sl.of_rd (cap := c) r1 (by rw [List.size_toArray, hp]; omega)
      rw [List.size_toArray, hp] at this; exact this
    · have := Sl.of_rd (cap := c - 2 ^ k) r2 (by rw [List.size_toArray, hlen']; omega)
      rw [List.size_toArray, hlen'] at this
      rw [show 2 ^ (k + 1) - 1 - 2 ^ k = 2 ^ k - 1 by omega]
      exact this
theorem rest_none {w : World} {p : Option Addr} {m c r k : Nat} {l : List (Int × Int)} (hk : ¬ k < r) (hl : l.length = 2 ^ r) (h : Sl w (.slice p m c) (restD r l (k + 1)).toArray) : m < 2 ^ k ∧ Sl w (.slice p m c) (restD r l k).toArray := by
  rw [restD_skip r l k (by omega)] at h
  refine ⟨?_, h⟩
  obtain ⟨p', c', e, _⟩ := h
  simp only [Value.slice.injEq, List.size_toArray] at e
  rw [restD_len hl, Nat.min_eq_left (by omega)] at e
  have h1 : 2 ^ r ≤ 2 ^ k := Nat.pow_le_pow_right (by omega) (by omega)
  have h2 := two_pos r
  omega
/-- The parts of the ranks k and above. -/
def fromD (r : Nat) (l : List (Int × Int)) (k j : Nat) : List (Int × Int) := if k ≤ j then partD r l j else []
theorem DgAt.took {w : World} {d : List SlV} {r k : Nat} {l : List (Int × Int)} {s : SlV} (h : DgAt w d (fromD r l (k + 1))) (hs : Sl w (.slice s.1 s.2.1 s.2.2) (partD r l k).toArray) : DgAt w (d.set k s) (fromD r l k) :=
  (h.set (r := k) hs).congr fun j _ => by
    unfold fromD
    by_cases q : j = k
    · subst q; rw [if_pos rfl, if_pos (Nat.le_refl _)]
    · rw [if_neg q]
      by_cases z : k + 1 ≤ j
      · rw [if_pos z, if_pos (by omega)]
      · rw [if_neg z, if_neg (by omega)]
theorem DgAt.skipped {w : World} {d : List SlV} {r k : Nat} {l : List (Int × Int)} (h : DgAt w d (fromD r l (k + 1))) (hk : ¬ k < r) : DgAt w d (fromD r l k) :=
  h.congr fun j _ => by
    unfold fromD
    by_cases z : k + 1 ≤ j
    · rw [if_pos z, if_pos (by omega)]
    · rw [if_neg z]
      by_cases q : k ≤ j
      · rw [if_pos q]; unfold partD; rw [if_neg (by omega)]
      · rw [if_neg q]

set_option maxHeartbeats 16000000 in
set_option maxRecDepth 8000 in
theorem below_A (blk off n cap r : Nat) (l : List (Int × Int)) (w : World) (hr : r ≤ 5) (hn0 : 0 < n) (hn : n ≤ 1000) (hcap : n ≤ cap) (HC : cap = 1) (HN : Hid (l.length = n)) (HL : Hid (l.length = 2 ^ r)) :
    Calls Tryd.prog 40 #[.slice (some ⟨blk, off, none⟩) n cap] w fun e w' => ∃ d, e = .returned (agV d) ∧ DgAt w d (partD r l) ∧ Below w.heap.size w w' := by
  have hz1 : (1 : Int) ≤ (n : Int) := by omega
  subst HC
  obtain rfl : n = 1 := by omega
  have HS0 : Hid (Sl w (.slice (some ⟨blk, off, none⟩) 0 0) (restD r l 6).toArray) := by
    show Sl _ _ _
    rw [restD_top r l 6 (by omega)]
    exact Sl.empty w _ 0 0 _ (by rw [List.length_drop, HN.out]) rfl
  go_enter Tryd.func40, Tryd.ntmps40
  go_wp2
  go_loopg [4, 5] 6 (fun gg v4 v5 wr => ∃ (k : Nat) (p : Option Addr) (m c : Nat) (z : Int) (d : List SlV), v4 = .slice p m c ∧ v5 = .int .i64 z ∧ z + 1 = (k : Int) ∧ k ≤ 6 ∧ k ≤ gg ∧ Hid (Sl w (.slice p m c) (restD r l k).toArray) ∧ Hid (WrE ES wr (w.heap.size + 1) 0 d) ∧ Hid (WrE ES wr w.heap.size 0 (List.replicate 6 (none, 0, 0))) ∧ Hid (DgAt w d (fromD r l k)) ∧ Hid (Below w.heap.size w wr))
  case atStart => obtain ⟨a1, a2, a3⟩ := new_two w 62; exact ⟨6, _, _, _, 5, _, rfl, rfl, by omega, Nat.le_refl _, Nat.le_refl _, HS0, a1, a2, (DgAt.start w).congr fun j hj => by unfold fromD; rw [if_neg (by omega)], a3⟩
  case round =>
    obtain ⟨k, p, m, c, z, d, rfl, rfl, hz, hk, hg, HS, HW, HO, HD, HB⟩ := hrel
    have hB : w.heap.size ≤ wr.heap.size := HB.out.size
    have hlw : w.heap.size + 1 < wr.heap.size := HW.out.lt
    have hk7 : k = 0 ∨ k = 1 ∨ k = 2 ∨ k = 3 ∨ k = 4 ∨ k = 5 ∨ k = 6 := by omega
    rcases hk7 with rfl | rfl | rfl | rfl | rfl | rfl | rfl
    · obtain rfl : z = -1 := by omega
      have HDE : Hid (DgAt w d (partD r l)) := HD.out.congr fun j _ => by unfold fromD; rw [if_pos (Nat.zero_le _)]
      obtain ⟨s0, s1, s2, s3, s4, s5, rfl⟩ := six HD.out.1
      obtain ⟨⟨c0, c1, c2, c3, c4, c5⟩, _⟩ := HW.out.six
      obtain ⟨⟨d0, d1, d2, d3, d4, d5⟩, ⟨f0, f1, f2, f3, f4, f5⟩⟩ := HO.out.six
      clear HD HS
      go_wp2
      refine bodyPost_ret (by simp [results, Tryd.results40, go_sem, d0, d1, d2, d3, d4, d5]; try rfl) rfl ?_
      exact ⟨_, rfl, HDE.out, below_six HB.out (Nat.le_refl _) _ _ _ _ _ _⟩
    · obtain rfl : z = 0 := by omega
      by_cases hkr : 0 < r
      · obtain ⟨b, o, rfl, hm, hmc, q1, q2, q3⟩ := rest_take hkr HL.out HS.out
        have hm' : m = 1 := hm
        have p1 : Sl w (.slice (some ⟨b, o, none⟩) 1 c) (partD r l 0).toArray := q1
        have p2 : Sl w (.slice (some ⟨b, o + 2, none⟩) (m - 1) (c - 1)) (restD r l 0).toArray := q2
        have p3 : m = 1 → ∀ q c', Sl w (.slice q 0 c') (restD r l 0).toArray := q3
        clear q1 q2 q3 hm
        subst hm'
        have q1 := p1
        have q2 : Sl w (.slice (some ⟨b, o + 2, none⟩) 0 (c - 1)) (restD r l 0).toArray := p2
        have q3 := p3
        clear p1 p2 p3
        obtain ⟨s0, e0, _⟩ := HD.out.2 0 (by omega)
        obtain ⟨k0, k1⟩ := HW.out.row e0
        by_cases hc1 : c = 1
        · subst hc1
          have HD' : Hid (DgAt w (d.set 0 (some ⟨b, o, none⟩, 1, 1)) (fromD r l 0)) := HD.out.took (s := (some ⟨b, o, none⟩, 1, 1)) q1
          have HS' : Hid (Sl w (.slice (some ⟨b, o, none⟩) 0 0) (restD r l 0).toArray) := q3 rfl _ _
          have hgs : wr.grownBy (wr.setCell ⟨w.heap.size + 1, 0, none⟩ (.slice (some ⟨b, o, none⟩) 1 1)).drew (some (w.heap.size + 1)) := gb_drewN (gb_setCell wr ⟨w.heap.size + 1, 0, none⟩ (.slice (some ⟨b, o, none⟩) 1 1)) 1
          have HB' : Hid (Below w.heap.size w (wr.setCell ⟨w.heap.size + 1, 0, none⟩ (.slice (some ⟨b, o, none⟩) 1 1)).drew) := below_gb HB.out hgs (by omega) hB
          have HW' : Hid (WrE ES (wr.setCell ⟨w.heap.size + 1, 0, none⟩ (.slice (some ⟨b, o, none⟩) 1 1)).drew (w.heap.size + 1) 0 (d.set 0 (some ⟨b, o, none⟩, 1, 1))) := (HW.out.setRow (i := 0) (by rw [HD.out.1]; omega) (some ⟨b, o, none⟩, 1, 1)).drewN 1
          have HO' : Hid (WrE ES (wr.setCell ⟨w.heap.size + 1, 0, none⟩ (.slice (some ⟨b, o, none⟩) 1 1)).drew w.heap.size 0 (List.replicate 6 (none, 0, 0))) := HO.out.kept hgs (fun e => by have := Option.some.inj e; omega)
          clear q1 q2 q3 e0 HD hgs HS
          go_wp2_with fail
          go_region
          go_wp2
          go_roundg 0
          case measure => omega
          case rel => exact ⟨0, _, _, _, -1, _, rfl, rfl, by omega, by omega, Nat.le_refl _, HS', HW', HO', HD', HB'⟩
        · have HD' : Hid (DgAt w (d.set 0 (some ⟨b, o, none⟩, 1, c)) (fromD r l 0)) := HD.out.took (s := (some ⟨b, o, none⟩, 1, c)) q1
          have HS' : Hid (Sl w (.slice (some ⟨b, o + 2, none⟩) 0 (c - 1)) (restD r l 0).toArray) := q2
          have hgs : wr.grownBy (wr.setCell ⟨w.heap.size + 1, 0, none⟩ (.slice (some ⟨b, o, none⟩) 1 c)).drew (some (w.heap.size + 1)) := gb_drewN (gb_setCell wr ⟨w.heap.size + 1, 0, none⟩ (.slice (some ⟨b, o, none⟩) 1 c)) 1
          have HB' : Hid (Below w.heap.size w (wr.setCell ⟨w.heap.size + 1, 0, none⟩ (.slice (some ⟨b, o, none⟩) 1 c)).drew) := below_gb HB.out hgs (by omega) hB
          have HW' : Hid (WrE ES (wr.setCell ⟨w.heap.size + 1, 0, none⟩ (.slice (some ⟨b, o, none⟩) 1 c)).drew (w.heap.size + 1) 0 (d.set 0 (some ⟨b, o, none⟩, 1, c))) := (HW.out.setRow (i := 0) (by rw [HD.out.1]; omega) (some ⟨b, o, none⟩, 1, c)).drewN 1
          have HO' : Hid (WrE ES (wr.setCell ⟨w.heap.size + 1, 0, none⟩ (.slice (some ⟨b, o, none⟩) 1 c)).drew w.heap.size 0 (List.replicate 6 (none, 0, 0))) := HO.out.kept hgs (fun e => by have := Option.some.inj e; omega)
          clear q1 q2 q3 e0 HD hgs HS
          go_wp2_with fail
          go_region
          go_wp2
          go_roundg 0
          case measure => omega
          case rel => exact ⟨0, _, _, _, -1, _, rfl, rfl, by omega, by omega, Nat.le_refl _, HS', HW', HO', HD', HB'⟩
      · obtain ⟨hm, q1⟩ := rest_none hkr HL.out HS.out
        have HS' : Hid (Sl w (.slice p m c) (restD r l 0).toArray) := q1
        have HD' : Hid (DgAt w d (fromD r l 0)) := HD.out.skipped hkr
        have hmz : ¬ (1 : Int) ≤ (m : Int) := by omega
        clear HD HS q1
        go_wp2
        go_roundg 0
        case measure => omega
        case rel => exact ⟨0, _, _, _, -1, _, rfl, rfl, by omega, by omega, Nat.le_refl _, HS', HW, HO, HD', HB⟩
    · obtain rfl : z = 1 := by omega
      by_cases hkr : 1 < r
      · obtain ⟨b, o, rfl, hm, hmc, q1, q2, q3⟩ := rest_take hkr HL.out HS.out
        have hm' : m = 3 := hm
        have p1 : Sl w (.slice (some ⟨b, o, none⟩) 2 c) (partD r l 1).toArray := q1
        have p2 : Sl w (.slice (some ⟨b, o + 4, none⟩) (m - 2) (c - 2)) (restD r l 1).toArray := q2
        have p3 : m = 2 → ∀ q c', Sl w (.slice q 0 c') (restD r l 1).toArray := q3
        clear q1 q2 q3 hm
        subst hm'
        have q1 := p1
        have q2 : Sl w (.slice (some ⟨b, o + 4, none⟩) 1 (c - 2)) (restD r l 1).toArray := p2
        have q3 := p3
        clear p1 p2 p3
        obtain ⟨s0, e0, _⟩ := HD.out.2 1 (by omega)
        obtain ⟨k0, k1⟩ := HW.out.row e0
        have HD' : Hid (DgAt w (d.set 1 (some ⟨b, o, none⟩, 2, c)) (fromD r l 1)) := HD.out.took (s := (some ⟨b, o, none⟩, 2, c)) q1
        have HS' : Hid (Sl w (.slice (some ⟨b, o + 4, none⟩) 1 (c - 2)) (restD r l 1).toArray) := q2
        have hgs : wr.grownBy (wr.setCell ⟨w.heap.size + 1, 1, none⟩ (.slice (some ⟨b, o, none⟩) 2 c)).drew (some (w.heap.size + 1)) := gb_drewN (gb_setCell wr ⟨w.heap.size + 1, 1, none⟩ (.slice (some ⟨b, o, none⟩) 2 c)) 1
        have HB' : Hid (Below w.heap.size w (wr.setCell ⟨w.heap.size + 1, 1, none⟩ (.slice (some ⟨b, o, none⟩) 2 c)).drew) := below_gb HB.out hgs (by omega) hB
        have HW' : Hid (WrE ES (wr.setCell ⟨w.heap.size + 1, 1, none⟩ (.slice (some ⟨b, o, none⟩) 2 c)).drew (w.heap.size + 1) 0 (d.set 1 (some ⟨b, o, none⟩, 2, c))) := (HW.out.setRow (i := 1) (by rw [HD.out.1]; omega) (some ⟨b, o, none⟩, 2, c)).drewN 1
        have HO' : Hid (WrE ES (wr.setCell ⟨w.heap.size + 1, 1, none⟩ (.slice (some ⟨b, o, none⟩) 2 c)).drew w.heap.size 0 (List.replicate 6 (none, 0, 0))) := HO.out.kept hgs (fun e => by have := Option.some.inj e; omega)
        clear q1 q2 q3 e0 HD hgs HS
        go_wp2_with fail
        go_region
        go_wp2
        go_roundg 1
        case measure => omega
        case rel => exact ⟨1, _, _, _, 0, _, rfl, rfl, by omega, by omega, Nat.le_refl _, HS', HW', HO', HD', HB'⟩
      · obtain ⟨hm, q1⟩ := rest_none hkr HL.out HS.out
        have HS' : Hid (Sl w (.slice p m c) (restD r l 1).toArray) := q1
        have HD' : Hid (DgAt w d (fromD r l 1)) := HD.out.skipped hkr
        have hmz : ¬ (2 : Int) ≤ (m : Int) := by omega
        clear HD HS q1
        go_wp2
        go_roundg 1
        case measure => omega
        case rel => exact ⟨1, _, _, _, 0, _, rfl, rfl, by omega, by omega, Nat.le_refl _, HS', HW, HO, HD', HB⟩
    · obtain rfl : z = 2 := by omega
      by_cases hkr : 2 < r
      · obtain ⟨b, o, rfl, hm, hmc, q1, q2, q3⟩ := rest_take hkr HL.out HS.out
        have hm' : m = 7 := hm
        have p1 : Sl w (.slice (some ⟨b, o, none⟩) 4 c) (partD r l 2).toArray := q1
        have p2 : Sl w (.slice (some ⟨b, o + 8, none⟩) (m - 4) (c - 4)) (restD r l 2).toArray := q2
        have p3 : m = 4 → ∀ q c', Sl w (.slice q 0 c') (restD r l 2).toArray := q3
        clear q1 q2 q3 hm
        subst hm'
        have q1 := p1
        have q2 : Sl w (.slice (some ⟨b, o + 8, none⟩) 3 (c - 4)) (restD r l 2).toArray := p2
        have q3 := p3
        clear p1 p2 p3
        obtain ⟨s0, e0, _⟩ := HD.out.2 2 (by omega)
        obtain ⟨k0, k1⟩ := HW.out.row e0
        have HD' : Hid (DgAt w (d.set 2 (some ⟨b, o, none⟩, 4, c)) (fromD r l 2)) := HD.out.took (s := (some ⟨b, o, none⟩, 4, c)) q1
        have HS' : Hid (Sl w (.slice (some ⟨b, o + 8, none⟩) 3 (c - 4)) (restD r l 2).toArray) := q2
        have hgs : wr.grownBy (wr.setCell ⟨w.heap.size + 1, 2, none⟩ (.slice (some ⟨b, o, none⟩) 4 c)).drew (some (w.heap.size + 1)) := gb_drewN (gb_setCell wr ⟨w.heap.size + 1, 2, none⟩ (.slice (some ⟨b, o, none⟩) 4 c)) 1
        have HB' : Hid (Below w.heap.size w (wr.setCell ⟨w.heap.size + 1, 2, none⟩ (.slice (some ⟨b, o, none⟩) 4 c)).drew) := below_gb HB.out hgs (by omega) hB
        have HW' : Hid (WrE ES (wr.setCell ⟨w.heap.size + 1, 2, none⟩ (.slice (some ⟨b, o, none⟩) 4 c)).drew (w.heap.size + 1) 0 (d.set 2 (some ⟨b, o, none⟩, 4, c))) := (HW.out.setRow (i := 2) (by rw [HD.out.1]; omega) (some ⟨b, o, none⟩, 4, c)).drewN 1
        have HO' : Hid (WrE ES (wr.setCell ⟨w.heap.size + 1, 2, none⟩ (.slice (some ⟨b, o, none⟩) 4 c)).drew w.heap.size 0 (List.replicate 6 (none, 0, 0))) := HO.out.kept hgs (fun e => by have := Option.some.inj e; omega)
        clear q1 q2 q3 e0 HD hgs HS
        go_wp2_with fail
        go_region
        go_wp2
        go_roundg 2
        case measure => omega
        case rel => exact ⟨2, _, _, _, 1, _, rfl, rfl, by omega, by omega, Nat.le_refl _, HS', HW', HO', HD', HB'⟩
      · obtain ⟨hm, q1⟩ := rest_none hkr HL.out HS.out
        have HS' : Hid (Sl w (.slice p m c) (restD r l 2).toArray) := q1
        have HD' : Hid (DgAt w d (fromD r l 2)) := HD.out.skipped hkr
        have hmz : ¬ (4 : Int) ≤ (m : Int) := by omega
        clear HD HS q1
        go_wp2
        go_roundg 2
        case measure => omega
        case rel => exact ⟨2, _, _, _, 1, _, rfl, rfl, by omega, by omega, Nat.le_refl _, HS', HW, HO, HD', HB⟩
    · obtain rfl : z = 3 := by omega
      by_cases hkr : 3 < r
      · obtain ⟨b, o, rfl, hm, hmc, q1, q2, q3⟩ := rest_take hkr HL.out HS.out
        have hm' : m = 15 := hm
        have p1 : Sl w (.slice (some ⟨b, o, none⟩) 8 c) (partD r l 3).toArray := q1
        have p2 : Sl w (.slice (some ⟨b, o + 16, none⟩) (m - 8) (c - 8)) (restD r l 3).toArray := q2
        have p3 : m = 8 → ∀ q c', Sl w (.slice q 0 c') (restD r l 3).toArray := q3
        clear q1 q2 q3 hm
        subst hm'
        have q1 := p1
        have q2 : Sl w (.slice (some ⟨b, o + 16, none⟩) 7 (c - 8)) (restD r l 3).toArray := p2
        have q3 := p3
        clear p1 p2 p3
        obtain ⟨s0, e0, _⟩ := HD.out.2 3 (by omega)
        obtain ⟨k0, k1⟩ := HW.out.row e0
        have HD' : Hid (DgAt w (d.set 3 (some ⟨b, o, none⟩, 8, c)) (fromD r l 3)) := HD.out.took (s := (some ⟨b, o, none⟩, 8, c)) q1
        have HS' : Hid (Sl w (.slice (some ⟨b, o + 16, none⟩) 7 (c - 8)) (restD r l 3).toArray) := q2
        have hgs : wr.grownBy (wr.setCell ⟨w.heap.size + 1, 3, none⟩ (.slice (some ⟨b, o, none⟩) 8 c)).drew (some (w.heap.size + 1)) := gb_drewN (gb_setCell wr ⟨w.heap.size + 1, 3, none⟩ (.slice (some ⟨b, o, none⟩) 8 c)) 1
        have HB' : Hid (Below w.heap.size w (wr.setCell ⟨w.heap.size + 1, 3, none⟩ (.slice (some ⟨b, o, none⟩) 8 c)).drew) := below_gb HB.out hgs (by omega) hB
        have HW' : Hid (WrE ES (wr.setCell ⟨w.heap.size + 1, 3, none⟩ (.slice (some ⟨b, o, none⟩) 8 c)).drew (w.heap.size + 1) 0 (d.set 3 (some ⟨b, o, none⟩, 8, c))) := (HW.out.setRow (i := 3) (by rw [HD.out.1]; omega) (some ⟨b, o, none⟩, 8, c)).drewN 1
        have HO' : Hid (WrE ES (wr.setCell ⟨w.heap.size + 1, 3, none⟩ (.slice (some ⟨b, o, none⟩) 8 c)).drew w.heap.size 0 (List.replicate 6 (none, 0, 0))) := HO.out.kept hgs (fun e => by have := Option.some.inj e; omega)
        clear q1 q2 q3 e0 HD hgs HS
        go_wp2_with fail
        go_region
        go_wp2
        go_roundg 3
        case measure => omega
        case rel => exact ⟨3, _, _, _, 2, _, rfl, rfl, by omega, by omega, Nat.le_refl _, HS', HW', HO', HD', HB'⟩
      · obtain ⟨hm, q1⟩ := rest_none hkr HL.out HS.out
        have HS' : Hid (Sl w (.slice p m c) (restD r l 3).toArray) := q1
        have HD' : Hid (DgAt w d (fromD r l 3)) := HD.out.skipped hkr
        have hmz : ¬ (8 : Int) ≤ (m : Int) := by omega
        clear HD HS q1
        go_wp2
        go_roundg 3
        case measure => omega
        case rel => exact ⟨3, _, _, _, 2, _, rfl, rfl, by omega, by omega, Nat.le_refl _, HS', HW, HO, HD', HB⟩
    · obtain rfl : z = 4 := by omega
      by_cases hkr : 4 < r
      · obtain ⟨b, o, rfl, hm, hmc, q1, q2, q3⟩ := rest_take hkr HL.out HS.out
        have hm' : m = 31 := hm
        have p1 : Sl w (.slice (some ⟨b, o, none⟩) 16 c) (partD r l 4).toArray := q1
        have p2 : Sl w (.slice (some ⟨b, o + 32, none⟩) (m - 16) (c - 16)) (restD r l 4).toArray := q2
        have p3 : m = 16 → ∀ q c', Sl w (.slice q 0 c') (restD r l 4).toArray := q3
        clear q1 q2 q3 hm
        subst hm'
        have q1 := p1
        have q2 : Sl w (.slice (some ⟨b, o + 32, none⟩) 15 (c - 16)) (restD r l 4).toArray := p2
        have q3 := p3
        clear p1 p2 p3
        obtain ⟨s0, e0, _⟩ := HD.out.2 4 (by omega)
        obtain ⟨k0, k1⟩ := HW.out.row e0
        have HD' : Hid (DgAt w (d.set 4 (some ⟨b, o, none⟩, 16, c)) (fromD r l 4)) := HD.out.took (s := (some ⟨b, o, none⟩, 16, c)) q1
        have HS' : Hid (Sl w (.slice (some ⟨b, o + 32, none⟩) 15 (c - 16)) (restD r l 4).toArray) := q2
        have hgs : wr.grownBy (wr.setCell ⟨w.heap.size + 1, 4, none⟩ (.slice (some ⟨b, o, none⟩) 16 c)).drew (some (w.heap.size + 1)) := gb_drewN (gb_setCell wr ⟨w.heap.size + 1, 4, none⟩ (.slice (some ⟨b, o, none⟩) 16 c)) 1
        have HB' : Hid (Below w.heap.size w (wr.setCell ⟨w.heap.size + 1, 4, none⟩ (.slice (some ⟨b, o, none⟩) 16 c)).drew) := below_gb HB.out hgs (by omega) hB
        have HW' : Hid (WrE ES (wr.setCell ⟨w.heap.size + 1, 4, none⟩ (.slice (some ⟨b, o, none⟩) 16 c)).drew (w.heap.size + 1) 0 (d.set 4 (some ⟨b, o, none⟩, 16, c))) := (HW.out.setRow (i := 4) (by rw [HD.out.1]; omega) (some ⟨b, o, none⟩, 16, c)).drewN 1
        have HO' : Hid (WrE ES (wr.setCell ⟨w.heap.size + 1, 4, none⟩ (.slice (some ⟨b, o, none⟩) 16 c)).drew w.heap.size 0 (List.replicate 6 (none, 0, 0))) := HO.out.kept hgs (fun e => by have := Option.some.inj e; omega)
        clear q1 q2 q3 e0 HD hgs HS
        go_wp2_with fail
        go_region
        go_wp2
        go_roundg 4
        case measure => omega
        case rel => exact ⟨4, _, _, _, 3, _, rfl, rfl, by omega, by omega, Nat.le_refl _, HS', HW', HO', HD', HB'⟩
      · obtain ⟨hm, q1⟩ := rest_none hkr HL.out HS.out
        have HS' : Hid (Sl w (.slice p m c) (restD r l 4).toArray) := q1
        have HD' : Hid (DgAt w d (fromD r l 4)) := HD.out.skipped hkr
        have hmz : ¬ (16 : Int) ≤ (m : Int) := by omega
        clear HD HS q1
        go_wp2
        go_roundg 4
        case measure => omega
        case rel => exact ⟨4, _, _, _, 3, _, rfl, rfl, by omega, by omega, Nat.le_refl _, HS', HW, HO, HD', HB⟩
    · obtain rfl : z = 5 := by omega
      have hkr : ¬ 5 < r := by omega
      obtain ⟨hm, q1⟩ := rest_none hkr HL.out HS.out
      have HS' : Hid (Sl w (.slice p m c) (restD r l 5).toArray) := q1
      have HD' : Hid (DgAt w d (fromD r l 5)) := HD.out.skipped hkr
      have hmz : ¬ (32 : Int) ≤ (m : Int) := by omega
      clear HD HS q1
      go_wp2
      go_roundg 5
      case measure => omega
      case rel => exact ⟨5, _, _, _, 4, _, rfl, rfl, by omega, by omega, Nat.le_refl _, HS', HW, HO, HD', HB⟩
set_option maxHeartbeats 16000000 in
set_option maxRecDepth 8000 in
theorem below_B (blk off n cap r : Nat) (l : List (Int × Int)) (w : World) (hr : r ≤ 5) (hn0 : 0 < n) (hn : n ≤ 1000) (hcap : n ≤ cap) (HC : cap ≠ 1) (HN : Hid (l.length = n)) (HL : Hid (l.length = 2 ^ r)) (HR : Hid (RdAt w blk off l.toArray)) :
    Calls Tryd.prog 40 #[.slice (some ⟨blk, off, none⟩) n cap] w fun e w' => ∃ d, e = .returned (agV d) ∧ DgAt w d (partD r l) ∧ Below w.heap.size w w' := by
  have hz1 : (1 : Int) ≤ (n : Int) := by omega
  have HS0 : Hid (Sl w (.slice (some ⟨blk, off + 2, none⟩) (n - 1) (cap - 1)) (restD r l 6).toArray) := by
    show Sl _ _ _
    rw [restD_top r l 6 (by omega)]
    obtain ⟨x, t, rfl⟩ := List.exists_cons_of_ne_nil (l := l) (fun e => by have := HN.out; rw [e] at this; simp at this; omega)
    exact Sl.tail HR.out (by have := HN.out; simpa using this) hcap
  go_enter Tryd.func40, Tryd.ntmps40
  go_wp2
  go_loopg [4, 5] 6 (fun gg v4 v5 wr => ∃ (k : Nat) (p : Option Addr) (m c : Nat) (z : Int) (d : List SlV), v4 = .slice p m c ∧ v5 = .int .i64 z ∧ z + 1 = (k : Int) ∧ k ≤ 6 ∧ k ≤ gg ∧ Hid (Sl w (.slice p m c) (restD r l k).toArray) ∧ Hid (WrE ES wr (w.heap.size + 1) 0 d) ∧ Hid (WrE ES wr w.heap.size 0 (List.replicate 6 (none, 0, 0))) ∧ Hid (DgAt w d (fromD r l k)) ∧ Hid (Below w.heap.size w wr))
  case atStart => obtain ⟨a1, a2, a3⟩ := new_two w 62; exact ⟨6, _, _, _, 5, _, rfl, rfl, by omega, Nat.le_refl _, Nat.le_refl _, HS0, a1, a2, (DgAt.start w).congr fun j hj => by unfold fromD; rw [if_neg (by omega)], a3⟩
  case round =>
    obtain ⟨k, p, m, c, z, d, rfl, rfl, hz, hk, hg, HS, HW, HO, HD, HB⟩ := hrel
    have hB : w.heap.size ≤ wr.heap.size := HB.out.size
    have hlw : w.heap.size + 1 < wr.heap.size := HW.out.lt
    have hk7 : k = 0 ∨ k = 1 ∨ k = 2 ∨ k = 3 ∨ k = 4 ∨ k = 5 ∨ k = 6 := by omega
    rcases hk7 with rfl | rfl | rfl | rfl | rfl | rfl | rfl
    · obtain rfl : z = -1 := by omega
      have HDE : Hid (DgAt w d (partD r l)) := HD.out.congr fun j _ => by unfold fromD; rw [if_pos (Nat.zero_le _)]
      obtain ⟨s0, s1, s2, s3, s4, s5, rfl⟩ := six HD.out.1
      obtain ⟨⟨c0, c1, c2, c3, c4, c5⟩, _⟩ := HW.out.six
      obtain ⟨⟨d0, d1, d2, d3, d4, d5⟩, ⟨f0, f1, f2, f3, f4, f5⟩⟩ := HO.out.six
      clear HD HS
      go_wp2
      refine bodyPost_ret (by simp [results, Tryd.results40, go_sem, d0, d1, d2, d3, d4, d5]; try rfl) rfl ?_
      exact ⟨_, rfl, HDE.out, below_six HB.out (Nat.le_refl _) _ _ _ _ _ _⟩
    · obtain rfl : z = 0 := by omega
      by_cases hkr : 0 < r
      · obtain ⟨b, o, rfl, hm, hmc, q1, q2, q3⟩ := rest_take hkr HL.out HS.out
        have hm' : m = 1 := hm
        have p1 : Sl w (.slice (some ⟨b, o, none⟩) 1 c) (partD r l 0).toArray := q1
        have p2 : Sl w (.slice (some ⟨b, o + 2, none⟩) (m - 1) (c - 1)) (restD r l 0).toArray := q2
        have p3 : m = 1 → ∀ q c', Sl w (.slice q 0 c') (restD r l 0).toArray := q3
        clear q1 q2 q3 hm
        subst hm'
        have q1 := p1
        have q2 : Sl w (.slice (some ⟨b, o + 2, none⟩) 0 (c - 1)) (restD r l 0).toArray := p2
        have q3 := p3
        clear p1 p2 p3
        obtain ⟨s0, e0, _⟩ := HD.out.2 0 (by omega)
        obtain ⟨k0, k1⟩ := HW.out.row e0
        by_cases hc1 : c = 1
        · subst hc1
          have HD' : Hid (DgAt w (d.set 0 (some ⟨b, o, none⟩, 1, 1)) (fromD r l 0)) := HD.out.took (s := (some ⟨b, o, none⟩, 1, 1)) q1
          have HS' : Hid (Sl w (.slice (some ⟨b, o, none⟩) 0 0) (restD r l 0).toArray) := q3 rfl _ _
          have hgs : wr.grownBy (wr.setCell ⟨w.heap.size + 1, 0, none⟩ (.slice (some ⟨b, o, none⟩) 1 1)).drew (some (w.heap.size + 1)) := gb_drewN (gb_setCell wr ⟨w.heap.size + 1, 0, none⟩ (.slice (some ⟨b, o, none⟩) 1 1)) 1
          have HB' : Hid (Below w.heap.size w (wr.setCell ⟨w.heap.size + 1, 0, none⟩ (.slice (some ⟨b, o, none⟩) 1 1)).drew) := below_gb HB.out hgs (by omega) hB
          have HW' : Hid (WrE ES (wr.setCell ⟨w.heap.size + 1, 0, none⟩ (.slice (some ⟨b, o, none⟩) 1 1)).drew (w.heap.size + 1) 0 (d.set 0 (some ⟨b, o, none⟩, 1, 1))) := (HW.out.setRow (i := 0) (by rw [HD.out.1]; omega) (some ⟨b, o, none⟩, 1, 1)).drewN 1
          have HO' : Hid (WrE ES (wr.setCell ⟨w.heap.size + 1, 0, none⟩ (.slice (some ⟨b, o, none⟩) 1 1)).drew w.heap.size 0 (List.replicate 6 (none, 0, 0))) := HO.out.kept hgs (fun e => by have := Option.some.inj e; omega)
          clear q1 q2 q3 e0 HD hgs HS
          go_wp2_with fail
          go_region
          go_wp2
          go_roundg 0
          case measure => omega
          case rel => exact ⟨0, _, _, _, -1, _, rfl, rfl, by omega, by omega, Nat.le_refl _, HS', HW', HO', HD', HB'⟩
        · have HD' : Hid (DgAt w (d.set 0 (some ⟨b, o, none⟩, 1, c)) (fromD r l 0)) := HD.out.took (s := (some ⟨b, o, none⟩, 1, c)) q1
          have HS' : Hid (Sl w (.slice (some ⟨b, o + 2, none⟩) 0 (c - 1)) (restD r l 0).toArray) := q2
          have hgs : wr.grownBy (wr.setCell ⟨w.heap.size + 1, 0, none⟩ (.slice (some ⟨b, o, none⟩) 1 c)).drew (some (w.heap.size + 1)) := gb_drewN (gb_setCell wr ⟨w.heap.size + 1, 0, none⟩ (.slice (some ⟨b, o, none⟩) 1 c)) 1
          have HB' : Hid (Below w.heap.size w (wr.setCell ⟨w.heap.size + 1, 0, none⟩ (.slice (some ⟨b, o, none⟩) 1 c)).drew) := below_gb HB.out hgs (by omega) hB
          have HW' : Hid (WrE ES (wr.setCell ⟨w.heap.size + 1, 0, none⟩ (.slice (some ⟨b, o, none⟩) 1 c)).drew (w.heap.size + 1) 0 (d.set 0 (some ⟨b, o, none⟩, 1, c))) := (HW.out.setRow (i := 0) (by rw [HD.out.1]; omega) (some ⟨b, o, none⟩, 1, c)).drewN 1
          have HO' : Hid (WrE ES (wr.setCell ⟨w.heap.size + 1, 0, none⟩ (.slice (some ⟨b, o, none⟩) 1 c)).drew w.heap.size 0 (List.replicate 6 (none, 0, 0))) := HO.out.kept hgs (fun e => by have := Option.some.inj e; omega)
          clear q1 q2 q3 e0 HD hgs HS
          go_wp2_with fail
          go_region
          go_wp2
          go_roundg 0
          case measure => omega
          case rel => exact ⟨0, _, _, _, -1, _, rfl, rfl, by omega, by omega, Nat.le_refl _, HS', HW', HO', HD', HB'⟩
      · obtain ⟨hm, q1⟩ := rest_none hkr HL.out HS.out
        have HS' : Hid (Sl w (.slice p m c) (restD r l 0).toArray) := q1
        have HD' : Hid (DgAt w d (fromD r l 0)) := HD.out.skipped hkr
        have hmz : ¬ (1 : Int) ≤ (m : Int) := by omega
        clear HD HS q1
        go_wp2
        go_roundg 0
        case measure => omega
        case rel => exact ⟨0, _, _, _, -1, _, rfl, rfl, by omega, by omega, Nat.le_refl _, HS', HW, HO, HD', HB⟩
    · obtain rfl : z = 1 := by omega
      by_cases hkr : 1 < r
      · obtain ⟨b, o, rfl, hm, hmc, q1, q2, q3⟩ := rest_take hkr HL.out HS.out
        have hm' : m = 3 := hm
        have p1 : Sl w (.slice (some ⟨b, o, none⟩) 2 c) (partD r l 1).toArray := q1
        have p2 : Sl w (.slice (some ⟨b, o + 4, none⟩) (m - 2) (c - 2)) (restD r l 1).toArray := q2
        have p3 : m = 2 → ∀ q c', Sl w (.slice q 0 c') (restD r l 1).toArray := q3
        clear q1 q2 q3 hm
        subst hm'
        have q1 := p1
        have q2 : Sl w (.slice (some ⟨b, o + 4, none⟩) 1 (c - 2)) (restD r l 1).toArray := p2
        have q3 := p3
        clear p1 p2 p3
        obtain ⟨s0, e0, _⟩ := HD.out.2 1 (by omega)
        obtain ⟨k0, k1⟩ := HW.out.row e0
        have HD' : Hid (DgAt w (d.set 1 (some ⟨b, o, none⟩, 2, c)) (fromD r l 1)) := HD.out.took (s := (some ⟨b, o, none⟩, 2, c)) q1
        have HS' : Hid (Sl w (.slice (some ⟨b, o + 4, none⟩) 1 (c - 2)) (restD r l 1).toArray) := q2
        have hgs : wr.grownBy (wr.setCell ⟨w.heap.size + 1, 1, none⟩ (.slice (some ⟨b, o, none⟩) 2 c)).drew (some (w.heap.size + 1)) := gb_drewN (gb_setCell wr ⟨w.heap.size + 1, 1, none⟩ (.slice (some ⟨b, o, none⟩) 2 c)) 1
        have HB' : Hid (Below w.heap.size w (wr.setCell ⟨w.heap.size + 1, 1, none⟩ (.slice (some ⟨b, o, none⟩) 2 c)).drew) := below_gb HB.out hgs (by omega) hB
        have HW' : Hid (WrE ES (wr.setCell ⟨w.heap.size + 1, 1, none⟩ (.slice (some ⟨b, o, none⟩) 2 c)).drew (w.heap.size + 1) 0 (d.set 1 (some ⟨b, o, none⟩, 2, c))) := (HW.out.setRow (i := 1) (by rw [HD.out.1]; omega) (some ⟨b, o, none⟩, 2, c)).drewN 1
        have HO' : Hid (WrE ES (wr.setCell ⟨w.heap.size + 1, 1, none⟩ (.slice (some ⟨b, o, none⟩) 2 c)).drew w.heap.size 0 (List.replicate 6 (none, 0, 0))) := HO.out.kept hgs (fun e => by have := Option.some.inj e; omega)
        clear q1 q2 q3 e0 HD hgs HS
        go_wp2_with fail
        go_region
        go_wp2
        go_roundg 1
        case measure => omega
        case rel => exact ⟨1, _, _, _, 0, _, rfl, rfl, by omega, by omega, Nat.le_refl _, HS', HW', HO', HD', HB'⟩
      · obtain ⟨hm, q1⟩ := rest_none hkr HL.out HS.out
        have HS' : Hid (Sl w (.slice p m c) (restD r l 1).toArray) := q1
        have HD' : Hid (DgAt w d (fromD r l 1)) := HD.out.skipped hkr
        have hmz : ¬ (2 : Int) ≤ (m : Int) := by omega
        clear HD HS q1
        go_wp2
        go_roundg 1
        case measure => omega
        case rel => exact ⟨1, _, _, _, 0, _, rfl, rfl, by omega, by omega, Nat.le_refl _, HS', HW, HO, HD', HB⟩
    · obtain rfl : z = 2 := by omega
      by_cases hkr : 2 < r
      · obtain ⟨b, o, rfl, hm, hmc, q1, q2, q3⟩ := rest_take hkr HL.out HS.out
        have hm' : m = 7 := hm
        have p1 : Sl w (.slice (some ⟨b, o, none⟩) 4 c) (partD r l 2).toArray := q1
        have p2 : Sl w (.slice (some ⟨b, o + 8, none⟩) (m - 4) (c - 4)) (restD r l 2).toArray := q2
        have p3 : m = 4 → ∀ q c', Sl w (.slice q 0 c') (restD r l 2).toArray := q3
        clear q1 q2 q3 hm
        subst hm'
        have q1 := p1
        have q2 : Sl w (.slice (some ⟨b, o + 8, none⟩) 3 (c - 4)) (restD r l 2).toArray := p2
        have q3 := p3
        clear p1 p2 p3
        obtain ⟨s0, e0, _⟩ := HD.out.2 2 (by omega)
        obtain ⟨k0, k1⟩ := HW.out.row e0
        have HD' : Hid (DgAt w (d.set 2 (some ⟨b, o, none⟩, 4, c)) (fromD r l 2)) := HD.out.took (s := (some ⟨b, o, none⟩, 4, c)) q1
        have HS' : Hid (Sl w (.slice (some ⟨b, o + 8, none⟩) 3 (c - 4)) (restD r l 2).toArray) := q2
        have hgs : wr.grownBy (wr.setCell ⟨w.heap.size + 1, 2, none⟩ (.slice (some ⟨b, o, none⟩) 4 c)).drew (some (w.heap.size + 1)) := gb_drewN (gb_setCell wr ⟨w.heap.size + 1, 2, none⟩ (.slice (some ⟨b, o, none⟩) 4 c)) 1
        have HB' : Hid (Below w.heap.size w (wr.setCell ⟨w.heap.size + 1, 2, none⟩ (.slice (some ⟨b, o, none⟩) 4 c)).drew) := below_gb HB.out hgs (by omega) hB
        have HW' : Hid (WrE ES (wr.setCell ⟨w.heap.size + 1, 2, none⟩ (.slice (some ⟨b, o, none⟩) 4 c)).drew (w.heap.size + 1) 0 (d.set 2 (some ⟨b, o, none⟩, 4, c))) := (HW.out.setRow (i := 2) (by rw [HD.out.1]; omega) (some ⟨b, o, none⟩, 4, c)).drewN 1
        have HO' : Hid (WrE ES (wr.setCell ⟨w.heap.size + 1, 2, none⟩ (.slice (some ⟨b, o, none⟩) 4 c)).drew w.heap.size 0 (List.replicate 6 (none, 0, 0))) := HO.out.kept hgs (fun e => by have := Option.some.inj e; omega)
        clear q1 q2 q3 e0 HD hgs HS
        go_wp2_with fail
        go_region
        go_wp2
        go_roundg 2
        case measure => omega
        case rel => exact ⟨2, _, _, _, 1, _, rfl, rfl, by omega, by omega, Nat.le_refl _, HS', HW', HO', HD', HB'⟩
      · obtain ⟨hm, q1⟩ := rest_none hkr HL.out HS.out
        have HS' : Hid (Sl w (.slice p m c) (restD r l 2).toArray) := q1
        have HD' : Hid (DgAt w d (fromD r l 2)) := HD.out.skipped hkr
        have hmz : ¬ (4 : Int) ≤ (m : Int) := by omega
        clear HD HS q1
        go_wp2
        go_roundg 2
        case measure => omega
        case rel => exact ⟨2, _, _, _, 1, _, rfl, rfl, by omega, by omega, Nat.le_refl _, HS', HW, HO, HD', HB⟩
    · obtain rfl : z = 3 := by omega
      by_cases hkr : 3 < r
      · obtain ⟨b, o, rfl, hm, hmc, q1, q2, q3⟩ := rest_take hkr HL.out HS.out
        have hm' : m = 15 := hm
        have p1 : Sl w (.slice (some ⟨b, o, none⟩) 8 c) (partD r l 3).toArray := q1
        have p2 : Sl w (.slice (some ⟨b, o + 16, none⟩) (m - 8) (c - 8)) (restD r l 3).toArray := q2
        have p3 : m = 8 → ∀ q c', Sl w (.slice q 0 c') (restD r l 3).toArray := q3
        clear q1 q2 q3 hm
        subst hm'
        have q1 := p1
        have q2 : Sl w (.slice (some ⟨b, o + 16, none⟩) 7 (c - 8)) (restD r l 3).toArray := p2
        have q3 := p3
        clear p1 p2 p3
        obtain ⟨s0, e0, _⟩ := HD.out.2 3 (by omega)
        obtain ⟨k0, k1⟩ := HW.out.row e0
        have HD' : Hid (DgAt w (d.set 3 (some ⟨b, o, none⟩, 8, c)) (fromD r l 3)) := HD.out.took (s := (some ⟨b, o, none⟩, 8, c)) q1
        have HS' : Hid (Sl w (.slice (some ⟨b, o + 16, none⟩) 7 (c - 8)) (restD r l 3).toArray) := q2
        have hgs : wr.grownBy (wr.setCell ⟨w.heap.size + 1, 3, none⟩ (.slice (some ⟨b, o, none⟩) 8 c)).drew (some (w.heap.size + 1)) := gb_drewN (gb_setCell wr ⟨w.heap.size + 1, 3, none⟩ (.slice (some ⟨b, o, none⟩) 8 c)) 1
        have HB' : Hid (Below w.heap.size w (wr.setCell ⟨w.heap.size + 1, 3, none⟩ (.slice (some ⟨b, o, none⟩) 8 c)).drew) := below_gb HB.out hgs (by omega) hB
        have HW' : Hid (WrE ES (wr.setCell ⟨w.heap.size + 1, 3, none⟩ (.slice (some ⟨b, o, none⟩) 8 c)).drew (w.heap.size + 1) 0 (d.set 3 (some ⟨b, o, none⟩, 8, c))) := (HW.out.setRow (i := 3) (by rw [HD.out.1]; omega) (some ⟨b, o, none⟩, 8, c)).drewN 1
        have HO' : Hid (WrE ES (wr.setCell ⟨w.heap.size + 1, 3, none⟩ (.slice (some ⟨b, o, none⟩) 8 c)).drew w.heap.size 0 (List.replicate 6 (none, 0, 0))) := HO.out.kept hgs (fun e => by have := Option.some.inj e; omega)
        clear q1 q2 q3 e0 HD hgs HS
        go_wp2_with fail
        go_region
        go_wp2
        go_roundg 3
        case measure => omega
        case rel => exact ⟨3, _, _, _, 2, _, rfl, rfl, by omega, by omega, Nat.le_refl _, HS', HW', HO', HD', HB'⟩
      · obtain ⟨hm, q1⟩ := rest_none hkr HL.out HS.out
        have HS' : Hid (Sl w (.slice p m c) (restD r l 3).toArray) := q1
        have HD' : Hid (DgAt w d (fromD r l 3)) := HD.out.skipped hkr
        have hmz : ¬ (8 : Int) ≤ (m : Int) := by omega
        clear HD HS q1
        go_wp2
        go_roundg 3
        case measure => omega
        case rel => exact ⟨3, _, _, _, 2, _, rfl, rfl, by omega, by omega, Nat.le_refl _, HS', HW, HO, HD', HB⟩
    · obtain rfl : z = 4 := by omega
      by_cases hkr : 4 < r
      · obtain ⟨b, o, rfl, hm, hmc, q1, q2, q3⟩ := rest_take hkr HL.out HS.out
        have hm' : m = 31 := hm
        have p1 : Sl w (.slice (some ⟨b, o, none⟩) 16 c) (partD r l 4).toArray := q1
        have p2 : Sl w (.slice (some ⟨b, o + 32, none⟩) (m - 16) (c - 16)) (restD r l 4).toArray := q2
        have p3 : m = 16 → ∀ q c', Sl w (.slice q 0 c') (restD r l 4).toArray := q3
        clear q1 q2 q3 hm
        subst hm'
        have q1 := p1
        have q2 : Sl w (.slice (some ⟨b, o + 32, none⟩) 15 (c - 16)) (restD r l 4).toArray := p2
        have q3 := p3
        clear p1 p2 p3
        obtain ⟨s0, e0, _⟩ := HD.out.2 4 (by omega)
        obtain ⟨k0, k1⟩ := HW.out.row e0
        have HD' : Hid (DgAt w (d.set 4 (some ⟨b, o, none⟩, 16, c)) (fromD r l 4)) := HD.out.took (s := (some ⟨b, o, none⟩, 16, c)) q1
        have HS' : Hid (Sl w (.slice (some ⟨b, o + 32, none⟩) 15 (c - 16)) (restD r l 4).toArray) := q2
        have hgs : wr.grownBy (wr.setCell ⟨w.heap.size + 1, 4, none⟩ (.slice (some ⟨b, o, none⟩) 16 c)).drew (some (w.heap.size + 1)) := gb_drewN (gb_setCell wr ⟨w.heap.size + 1, 4, none⟩ (.slice (some ⟨b, o, none⟩) 16 c)) 1
        have HB' : Hid (Below w.heap.size w (wr.setCell ⟨w.heap.size + 1, 4, none⟩ (.slice (some ⟨b, o, none⟩) 16 c)).drew) := below_gb HB.out hgs (by omega) hB
        have HW' : Hid (WrE ES (wr.setCell ⟨w.heap.size + 1, 4, none⟩ (.slice (some ⟨b, o, none⟩) 16 c)).drew (w.heap.size + 1) 0 (d.set 4 (some ⟨b, o, none⟩, 16, c))) := (HW.out.setRow (i := 4) (by rw [HD.out.1]; omega) (some ⟨b, o, none⟩, 16, c)).drewN 1
        have HO' : Hid (WrE ES (wr.setCell ⟨w.heap.size + 1, 4, none⟩ (.slice (some ⟨b, o, none⟩) 16 c)).drew w.heap.size 0 (List.replicate 6 (none, 0, 0))) := HO.out.kept hgs (fun e => by have := Option.some.inj e; omega)
        clear q1 q2 q3 e0 HD hgs HS
        go_wp2_with fail
        go_region
        go_wp2
        go_roundg 4
        case measure => omega
        case rel => exact ⟨4, _, _, _, 3, _, rfl, rfl, by omega, by omega, Nat.le_refl _, HS', HW', HO', HD', HB'⟩
      · obtain ⟨hm, q1⟩ := rest_none hkr HL.out HS.out
        have HS' : Hid (Sl w (.slice p m c) (restD r l 4).toArray) := q1
        have HD' : Hid (DgAt w d (fromD r l 4)) := HD.out.skipped hkr
        have hmz : ¬ (16 : Int) ≤ (m : Int) := by omega
        clear HD HS q1
        go_wp2
        go_roundg 4
        case measure => omega
        case rel => exact ⟨4, _, _, _, 3, _, rfl, rfl, by omega, by omega, Nat.le_refl _, HS', HW, HO, HD', HB⟩
    · obtain rfl : z = 5 := by omega
      have hkr : ¬ 5 < r := by omega
      obtain ⟨hm, q1⟩ := rest_none hkr HL.out HS.out
      have HS' : Hid (Sl w (.slice p m c) (restD r l 5).toArray) := q1
      have HD' : Hid (DgAt w d (fromD r l 5)) := HD.out.skipped hkr
      have hmz : ¬ (32 : Int) ≤ (m : Int) := by omega
      clear HD HS q1
      go_wp2
      go_roundg 5
      case measure => omega
      case rel => exact ⟨5, _, _, _, 4, _, rfl, rfl, by omega, by omega, Nat.le_refl _, HS', HW, HO, HD', HB⟩
theorem below_any (v : Value) (r : Nat) (l : List (Int × Int)) (w : World) (hs : Sl w v l.toArray) (hr : r ≤ 5) (hl : l.length = 2 ^ r) :
    Calls Tryd.prog 40 #[v] w fun e w' => ∃ d, e = .returned (agV d) ∧ DgAt w d (partD r l) ∧ Below w.heap.size w w' := by
  have h32 : 2 ^ r ≤ 2 ^ 5 := Nat.pow_le_pow_right (by omega) hr
  have hp := two_pos r
  obtain ⟨p, c, rfl, hc, h0 | ⟨blk, off, rfl, hrd⟩⟩ := hs
  · rw [List.size_toArray, hl] at h0; omega
  · rw [List.size_toArray] at hc ⊢
    by_cases h1 : c = 1
    · exact below_A blk off _ c r l w hr (by omega) (by omega) hc h1 rfl hl
    · exact below_B blk off _ c r l w hr (by omega) (by omega) hc h1 rfl hl hrd
#print axioms below_any
end Go.Proofs.YtmkjalpgeljnkaaDoor

/-
  bino.size: how many items there are at all ranks.
-/
namespace Go.Proofs.YtmkjalpgeljnkaaDoor
open Go.RowKit Go.Sort Go.Proofs

theorem int_eq {a b : Int} (h : a = b) : Value.int .i64 a = .int .i64 b := by rw [h]
theorem ix0 (s0 s1 s2 s3 s4 s5 : SlV) (w : World) : (Instr.index 62 (.agg #[.slice s0.1 s0.2.1 s0.2.2, .slice s1.1 s1.2.1 s1.2.2, .slice s2.1 s2.2.1 s2.2.2, .slice s3.1 s3.2.1 s3.2.2, .slice s4.1 s4.2.1 s4.2.2, .slice s5.1 s5.2.1 s5.2.2]) (.int .i64 0)).run Tryd.prog w = .ok (.slice s0.1 s0.2.1 s0.2.2) w := by kernel_rfl
theorem ix1 (s0 s1 s2 s3 s4 s5 : SlV) (w : World) : (Instr.index 62 (.agg #[.slice s0.1 s0.2.1 s0.2.2, .slice s1.1 s1.2.1 s1.2.2, .slice s2.1 s2.2.1 s2.2.2, .slice s3.1 s3.2.1 s3.2.2, .slice s4.1 s4.2.1 s4.2.2, .slice s5.1 s5.2.1 s5.2.2]) (.int .i64 1)).run Tryd.prog w = .ok (.slice s1.1 s1.2.1 s1.2.2) w := by kernel_rfl
theorem ix2 (s0 s1 s2 s3 s4 s5 : SlV) (w : World) : (Instr.index 62 (.agg #[.slice s0.1 s0.2.1 s0.2.2, .slice s1.1 s1.2.1 s1.2.2, .slice s2.1 s2.2.1 s2.2.2, .slice s3.1 s3.2.1 s3.2.2, .slice s4.1 s4.2.1 s4.2.2, .slice s5.1 s5.2.1 s5.2.2]) (.int .i64 2)).run Tryd.prog w = .ok (.slice s2.1 s2.2.1 s2.2.2) w := by kernel_rfl
theorem ix3 (s0 s1 s2 s3 s4 s5 : SlV) (w : World) : (Instr.index 62 (.agg #[.slice s0.1 s0.2.1 s0.2.2, .slice s1.1 s1.2.1 s1.2.2, .slice s2.1 s2.2.1 s2.2.2, .slice s3.1 s3.2.1 s3.2.2, .slice s4.1 s4.2.1 s4.2.2, .slice s5.1 s5.2.1 s5.2.2]) (.int .i64 3)).run Tryd.prog w = .ok (.slice s3.1 s3.2.1 s3.2.2) w := by kernel_rfl
theorem ix4 (s0 s1 s2 s3 s4 s5 : SlV) (w : World) : (Instr.index 62 (.agg #[.slice s0.1 s0.2.1 s0.2.2, .slice s1.1 s1.2.1 s1.2.2, .slice s2.1 s2.2.1 s2.2.2, .slice s3.1 s3.2.1 s3.2.2, .slice s4.1 s4.2.1 s4.2.2, .slice s5.1 s5.2.1 s5.2.2]) (.int .i64 4)).run Tryd.prog w = .ok (.slice s4.1 s4.2.1 s4.2.2) w := by kernel_rfl
theorem ix5 (s0 s1 s2 s3 s4 s5 : SlV) (w : World) : (Instr.index 62 (.agg #[.slice s0.1 s0.2.1 s0.2.2, .slice s1.1 s1.2.1 s1.2.2, .slice s2.1 s2.2.1 s2.2.2, .slice s3.1 s3.2.1 s3.2.2, .slice s4.1 s4.2.1 s4.2.2, .slice s5.1 s5.2.1 s5.2.2]) (.int .i64 5)).run Tryd.prog w = .ok (.slice s5.1 s5.2.1 s5.2.2) w := by kernel_rfl
theorem ixk (s0 s1 s2 s3 s4 s5 : SlV) (k : Nat) (s : SlV) (h : [s0, s1, s2, s3, s4, s5][k]? = some s) (w : World) : (Instr.index 62 (.agg #[.slice s0.1 s0.2.1 s0.2.2, .slice s1.1 s1.2.1 s1.2.2, .slice s2.1 s2.2.1 s2.2.2, .slice s3.1 s3.2.1 s3.2.2, .slice s4.1 s4.2.1 s4.2.2, .slice s5.1 s5.2.1 s5.2.2]) (.int .i64 (k : Int))).run Tryd.prog w = .ok (.slice s.1 s.2.1 s.2.2) w := by
  match k, h with
  | 0, h => cases h; exact ix0 ..
  | 1, h => cases h; exact ix1 ..
  | 2, h => cases h; exact ix2 ..
  | 3, h => cases h; exact ix3 ..
  | 4, h => cases h; exact ix4 ..
  | 5, h => cases h; exact ix5 ..
  | k + 6, h => simp at h
set_option maxHeartbeats 4000000 in
set_option maxRecDepth 4000 in
theorem dsize_some (s0 s1 s2 s3 s4 s5 : SlV) (w : World) (h0 : s0.2.1 ≤ 1000) (h1 : s1.2.1 ≤ 1000) (h2 : s2.2.1 ≤ 1000) (h3 : s3.2.1 ≤ 1000) (h4 : s4.2.1 ≤ 1000) (h5 : s5.2.1 ≤ 1000) :
    Calls Tryd.prog 35 #[.agg #[.slice s0.1 s0.2.1 s0.2.2, .slice s1.1 s1.2.1 s1.2.2, .slice s2.1 s2.2.1 s2.2.2, .slice s3.1 s3.2.1 s3.2.2, .slice s4.1 s4.2.1 s4.2.2, .slice s5.1 s5.2.1 s5.2.2]] w fun e w' => e = .returned (.int .i64 ((s0.2.1 : Int) + s1.2.1 + s2.2.1 + s3.2.1 + s4.2.1 + s5.2.1)) ∧ Below w.heap.size w w' := by
  have j0 := ix0 s0 s1 s2 s3 s4 s5
  have j1 := ix1 s0 s1 s2 s3 s4 s5
  have j2 := ix2 s0 s1 s2 s3 s4 s5
  have j3 := ix3 s0 s1 s2 s3 s4 s5
  have j4 := ix4 s0 s1 s2 s3 s4 s5
  have j5 := ix5 s0 s1 s2 s3 s4 s5
  go_enter Tryd.func35, Tryd.ntmps35
  go_wp2
  have HB : Hid (Below w.heap.size w (w.alloc (.cells #[.slice s0.1 s0.2.1 s0.2.2, .slice s1.1 s1.2.1 s1.2.2, .slice s2.1 s2.2.1 s2.2.2, .slice s3.1 s3.2.1 s3.2.2, .slice s4.1 s4.2.1 s4.2.2, .slice s5.1 s5.2.1 s5.2.2] 62))) := (Below.refl _ _).alloc (Nat.le_refl _) _
  go_loop [3, 7] (fun t i => ∃ k : Nat, k ≤ 6 ∧ i = .int .i64 k ∧ t = .int .i64 (([(s0.2.1 : Int), s1.2.1, s2.2.1, s3.2.1, s4.2.1, s5.2.1].take k).sum)) (fun _ i => 6 - (intOf i).toNat)
  case atStart => exact ⟨0, Nat.zero_le _, rfl, rfl⟩
  case round =>
    obtain ⟨k, hk, rfl, rfl⟩ := hrel
    have hk7 : k = 0 ∨ k = 1 ∨ k = 2 ∨ k = 3 ∨ k = 4 ∨ k = 5 ∨ k = 6 := by omega
    rcases hk7 with rfl | rfl | rfl | rfl | rfl | rfl | rfl
    all_goals simp only [List.take_zero, List.take_succ_cons, List.sum_cons, List.sum_nil, Int.add_zero]
    · go_wp2
      exact ⟨⟨1, by omega, rfl, int_eq (by simp only [List.take_succ_cons, List.take_zero, List.sum_cons, List.sum_nil]; omega)⟩, by simp [intOf]⟩
    · go_wp2
      exact ⟨⟨2, by omega, rfl, int_eq (by simp only [List.take_succ_cons, List.take_zero, List.sum_cons, List.sum_nil]; omega)⟩, by simp [intOf]⟩
    · go_wp2
      exact ⟨⟨3, by omega, rfl, int_eq (by simp only [List.take_succ_cons, List.take_zero, List.sum_cons, List.sum_nil]; omega)⟩, by simp [intOf]⟩
    · go_wp2
      exact ⟨⟨4, by omega, rfl, int_eq (by simp only [List.take_succ_cons, List.take_zero, List.sum_cons, List.sum_nil]; omega)⟩, by simp [intOf]⟩
    · go_wp2
      exact ⟨⟨5, by omega, rfl, int_eq (by simp only [List.take_succ_cons, List.take_zero, List.sum_cons, List.sum_nil]; omega)⟩, by simp [intOf]⟩
    · go_wp2
      exact ⟨⟨6, by omega, rfl, int_eq (by simp only [List.take_succ_cons, List.take_zero, List.sum_cons, List.sum_nil]; omega)⟩, by simp [intOf]⟩
    · go_wp2
      go_ret
      exact ⟨congrArg Ending.returned (int_eq (by omega)), HB.out⟩
theorem Sl.count {w : World} {p : Option Addr} {n c : Nat} {l : List (Int × Int)} (h : Sl w (.slice p n c) l.toArray) : n = l.length := by
  obtain ⟨p', c', e, _⟩ := h
  simp only [Value.slice.injEq, List.size_toArray] at e
  exact e.2.1
theorem dsize_any (d : List SlV) (f : Nat → List (Int × Int)) (w0 w : World) (h : DgAt w0 d f) (hf : ∀ j, j < 6 → (f j).length ≤ 1000) :
    Calls Tryd.prog 35 #[agV d] w fun e w' => e = .returned (.int .i64 ((catTo f 6 0).length : Nat)) ∧ Below w.heap.size w w' := by
  obtain ⟨s0, s1, s2, s3, s4, s5, rfl⟩ := six h.1
  obtain ⟨_, e0, h0⟩ := h.2 0 (by omega)
  obtain ⟨_, e1, h1⟩ := h.2 1 (by omega)
  obtain ⟨_, e2, h2⟩ := h.2 2 (by omega)
  obtain ⟨_, e3, h3⟩ := h.2 3 (by omega)
  obtain ⟨_, e4, h4⟩ := h.2 4 (by omega)
  obtain ⟨_, e5, h5⟩ := h.2 5 (by omega)
  cases e0; cases e1; cases e2; cases e3; cases e4; cases e5
  have k0 := hf 0 (by omega)
  have k1 := hf 1 (by omega)
  have k2 := hf 2 (by omega)
  have k3 := hf 3 (by omega)
  have k4 := hf 4 (by omega)
  have k5 := hf 5 (by omega)
  rw [← h0.count] at k0
  rw [← h1.count] at k1
  rw [← h2.count] at k2
  rw [← h3.count] at k3
  rw [← h4.count] at k4
  rw [← h5.count] at k5
  refine (dsize_some s0 s1 s2 s3 s4 s5 w k0 k1 k2 k3 k4 k5).mono fun e w' ⟨a, b⟩ => ⟨?_, b⟩
  rw [a]
  refine congrArg Ending.returned (int_eq ?_)
  simp only [catTo, List.length_append, List.length_nil]
  rw [← h0.count, ← h1.count, ← h2.count, ← h3.count, ← h4.count, ← h5.count]
  omega
#print axioms dsize_any
end Go.Proofs.YtmkjalpgeljnkaaDoor

/-
  bino.falls: whether a key of a tree is less than that of the root above it.
-/
namespace Go.Proofs.YtmkjalpgeljnkaaDoor
open Go.RowKit Go.Sort Go.Proofs

theorem Kids.join {key : Nat → Int} : ∀ (r root from_ : Nat), (∀ i, i < r → Kids key i (from_ + (2 ^ r - 2 ^ (i + 1))) (from_ + (2 ^ r - 2 ^ (i + 1)) + 1) ∧ key root ≤ key (from_ + (2 ^ r - 2 ^ (i + 1)))) → Kids key r root from_
  | 0, _, _, _ => trivial
  | r + 1, root, from_, h => by
    have hs : 2 ^ (r + 1) = 2 ^ r + 2 ^ r := by rw [Nat.pow_succ]; omega
    obtain ⟨h1, h2⟩ := h r (Nat.lt_succ_self r)
    rw [Nat.sub_self, Nat.add_zero] at h1 h2
    refine ⟨h2, h1, Kids.join r root (from_ + 2 ^ r) fun i hi => ?_⟩
    have hle : 2 ^ (i + 1) ≤ 2 ^ r := Nat.pow_le_pow_right (by omega) hi
    have e : from_ + 2 ^ r + (2 ^ r - 2 ^ (i + 1)) = from_ + (2 ^ (r + 1) - 2 ^ (i + 1)) := by
      rw [hs]
      generalize 2 ^ r = A at hle ⊢
      generalize 2 ^ (i + 1) = B at hle ⊢
      omega
    rw [e]
    exact h i (by omega)
theorem partD_key {r : Nat} {l : List (Int × Int)} {j t : Nat} (hj : j < r) (ht : t < 2 ^ j) : keyL (partD r l j) t = keyL l (1 + (2 ^ r - 2 ^ (j + 1)) + t) := by
  unfold partD keyL
  rw [if_pos hj, List.getElem?_take, if_pos ht, List.getElem?_drop]
theorem partD_len {r : Nat} {l : List (Int × Int)} {j : Nat} (hl : l.length = 2 ^ r) (hj : j < r) : (partD r l j).length = 2 ^ j := by
  have hs : 2 ^ (j + 1) = 2 ^ j + 2 ^ j := by rw [Nat.pow_succ]; omega
  have hle : 2 ^ (j + 1) ≤ 2 ^ r := Nat.pow_le_pow_right (by omega) hj
  have hp := two_pos j
  unfold partD
  rw [if_pos hj, List.length_take, List.length_drop, hl]
  omega
/-- A tree is one just if the trees below its root are, and none has a lesser root. -/
theorem isT_parts {r : Nat} {l : List (Int × Int)} (hl : l.length = 2 ^ r) : IsT r l ↔ ∀ j, j < r → IsT j (partD r l j) ∧ keyL l 0 ≤ keyL (partD r l j) 0 := by
  constructor
  · intro h j hj
    refine ⟨?_, ?_⟩
    · have := h.sub hj
      unfold partD; rw [if_pos hj]; exact this
    · obtain ⟨_, k2⟩ := Kids.sub r 0 1 h.kids j hj
      rw [partD_key hj (two_pos j), Nat.add_zero]
      exact k2
  · intro h
    refine ⟨hl, Kids.join r 0 1 fun i hi => ?_⟩
    obtain ⟨h1, h2⟩ := h i hi
    rw [partD_key hi (two_pos i), Nat.add_zero] at h2
    refine ⟨?_, h2⟩
    refine Kids.moved (key := keyL (partD r l i)) i 0 1 _ _ ?_ (fun j hj => ?_) h1.kids
    · exact (partD_key hi (two_pos i)).symm
    · rw [partD_key hi (by omega), show 1 + (2 ^ r - 2 ^ (i + 1)) + 1 + j = 1 + (2 ^ r - 2 ^ (i + 1)) + (1 + j) by omega]
/-- Whether a key of a tree falls. -/
def fallB (r : Nat) (l : List (Int × Int)) : Bool := !keysB ((r : Int), l)
theorem fallB_no {r : Nat} {l : List (Int × Int)} (h : IsT r l) : fallB r l = false := by unfold fallB; rw [kids_keysB h]; rfl
theorem fallB_isT {r : Nat} {l : List (Int × Int)} (hl : l.length = 2 ^ r) (h : fallB r l = false) : IsT r l := by
  refine keysB_kids hl ?_
  unfold fallB at h
  cases e : keysB ((r : Int), l)
  · rw [e] at h; cases h
  · rfl
theorem fallB_yes {r : Nat} {l : List (Int × Int)} (hl : l.length = 2 ^ r) (h : ¬ IsT r l) : fallB r l = true := by
  cases e : fallB r l
  · exact absurd (fallB_isT hl e) h
  · rfl

set_option maxHeartbeats 16000000 in
set_option maxRecDepth 4000 in
theorem falls_step (r blk off n cap : Nat) (l : List (Int × Int)) (w : World) (hr : r ≤ 5) (hn0 : 0 < n) (HN : Hid (l.length = n)) (HL : Hid (l.length = 2 ^ r)) (HR : Hid (RdAt w blk off l.toArray)) (hcap : n ≤ cap)
    (IH : Hid (∀ j, j < r → ∀ (v : Value) (l : List (Int × Int)) (w : World), Sl w v l.toArray → l.length = 2 ^ j → Calls Tryd.prog 32 #[v] w fun e w' => e = .returned (.bool (fallB j l)) ∧ Below w.heap.size w w')) :
    Calls Tryd.prog 32 #[.slice (some ⟨blk, off, none⟩) n cap] w fun e w' => e = .returned (.bool (fallB r l)) ∧ Below w.heap.size w w' := by
  have hz0 : (0 : Int) < (n : Int) := by omega
  have hs : Sl w (.slice (some ⟨blk, off, none⟩) n cap) l.toArray := by
    have := Sl.of_rd (cap := cap) HR.out (by rw [List.size_toArray, HN.out]; exact hcap)
    rw [List.size_toArray, HN.out] at this; exact this
  have cB := below_any _ r l w hs hr HL.out
  have k0 : w.cell? ⟨blk, off, none⟩ = some (.int .i64 (keyL l 0)) := by
    have h1 := (HR.out.2 0 (by rw [List.size_toArray, HN.out]; exact hn0)).1
    simp only [Nat.zero_mul, Nat.add_zero] at h1
    rw [h1, keyL_arr (by rw [HN.out]; exact hn0)]
  have hbw : blk < w.heap.size := HR.out.1
  clear hs
  generalize hkr : keyL l 0 = kr at k0
  have HKR : Hid (keyL l 0 = kr) := hkr
  clear hkr
  go_enter Tryd.func32, Tryd.ntmps32
  go_wp2_with fail
  refine cB.mono ?_
  rintro e w1 ⟨d, he, hd, hb1⟩
  obtain ⟨s0, s1, s2, s3, s4, s5, rfl⟩ := six hd.1
  have he' : e = .returned (.agg #[.slice s0.1 s0.2.1 s0.2.2, .slice s1.1 s1.2.1 s1.2.2, .slice s2.1 s2.2.1 s2.2.2, .slice s3.1 s3.2.1 s3.2.2, .slice s4.1 s4.2.1 s4.2.2, .slice s5.1 s5.2.1 s5.2.2]) := he
  subst he'
  have HD : Hid (DgAt w [s0, s1, s2, s3, s4, s5] (partD r l)) := hd
  clear he hd cB
  go_wp2
  go_loopg [7] 6 (fun gg v7 wr => ∃ k : Nat, v7 = .int .i64 k ∧ k ≤ 6 ∧ 6 - k ≤ gg ∧ Hid (∀ j, j < k → j < r → IsT j (partD r l j) ∧ keyL l 0 ≤ keyL (partD r l j) 0) ∧ Hid (Below w.heap.size w wr))
  case atStart => exact ⟨0, rfl, by omega, by omega, (fun j hj => absurd hj (Nat.not_lt_zero _)), hb1⟩
  case round =>
    obtain ⟨k, rfl, hk, hg, HI, HB⟩ := hrel
    have hB : w.heap.size ≤ wr.heap.size := HB.out.size
    by_cases hlt : k < 6
    · have hlz : (k : Int) < 6 := by omega
      obtain ⟨⟨p, m, c⟩, es, hs⟩ := HD.out.2 k hlt
      have jx := ixk s0 s1 s2 s3 s4 s5 k (p, m, c) es
      simp only at jx hs
      clear es
      by_cases hkr : k < r
      · have hlen := partD_len HL.out hkr
        have hpos := two_pos k
        have hm : m = (partD r l k).length := hs.count
        have hm0 : 0 < m := by omega
        obtain ⟨p', c', e', hc', h0 | ⟨b, o, rfl, hrd⟩⟩ := id hs
        · rw [List.size_toArray] at h0; omega
        simp only [Value.slice.injEq] at e'
        obtain ⟨rfl, hm2, rfl⟩ := e'
        clear hm2
        have hbw2 : b < w.heap.size := hrd.1
        have q0 : w.cell? ⟨b, o, none⟩ = some (.int .i64 (keyL (partD r l k) 0)) := by
          have h1 := (hrd.2 0 (by rw [List.size_toArray]; omega)).1
          simp only [Nat.zero_mul, Nat.add_zero] at h1
          rw [h1, keyL_arr (by omega)]
        have x0 := (HB.out.cell (p := ⟨b, o, none⟩) hbw2).trans q0
        have x1 := (HB.out.cell (p := ⟨blk, off, none⟩) hbw).trans k0
        have hmz : (0 : Int) < (m : Int) := by omega
        have hd1 : decide (0 < m) = true := decide_eq_true hm0
        have hbr : b < wr.heap.size := by omega
        have hblr : blk < wr.heap.size := by omega
        have CF : Hid (∀ W, Below wr.heap.size wr W → Calls Tryd.prog 32 #[.slice (some ⟨b, o, none⟩) m c] W fun e w' => e = .returned (.bool (fallB k (partD r l k))) ∧ Below W.heap.size W w') := fun W hb => IH.out k hkr _ _ W ((hs.below HB.out).below hb) hlen
        generalize hkp : keyL (partD r l k) 0 = kp at q0 x0
        have HKP : Hid (keyL (partD r l k) 0 = kp) := hkp
        have HLN : Hid ((partD r l k).length = 2 ^ k) := hlen
        have HHK : Hid (k < r) := hkr
        clear hkp hlen hpos hm hs hrd q0
        by_cases hless : kp < kr
        · have hd2 : decide (kp < kr) = true := decide_eq_true hless
          have HF : Hid (fallB r l = true) := fallB_yes HL.out (fun hT => by have := ((isT_parts HL.out).1 hT k HHK.out).2; rw [HKR.out, HKP.out] at this; omega)
          go_wp2_with fail
          go_quiet (fail)
          go_wp2
          go_ret
          exact ⟨by rw [HF.out]; rfl, below_drewN HB.out nq⟩
        · have hd2 : decide (kp < kr) = false := decide_eq_false hless
          cases hfb : fallB k (partD r l k) with
          | true =>
            have HFB : Hid (fallB k (partD r l k) = true) := hfb
            have HF : Hid (fallB r l = true) := fallB_yes HL.out (fun hT => by have h1 := ((isT_parts HL.out).1 hT k HHK.out).1; rw [fallB_no h1] at hfb; cases hfb)
            rw [hfb] at CF
            clear hfb
            go_wp2_with fail
            go_region_held3 (fun w' => w'.cell? ⟨b, o, none⟩ = some (.int .i64 kp) ∧ w'.cell? ⟨blk, off, none⟩ = some (.int .i64 kr)) (first | go_keep | (exact ⟨j0, j1⟩)) (first | (go_at_call 32; refine (CF.out _ (below_drewN (Below.refl _ _) 1)).mono ?_; rintro e w2 ⟨rfl, hb2'⟩; have hb2 : Below wr.heap.size wr w2 := (below_drewN (Below.refl _ _) 1).trans hb2'; have j0 := (hb2.cell (p := ⟨b, o, none⟩) hbr).trans x0; have j1 := (hb2.cell (p := ⟨blk, off, none⟩) hblr).trans x1; clear hb2'))
            all_goals
              go_wp2
              go_ret
              exact ⟨by rw [HF.out]; rfl, HB.out.trans (hb2.mono hB)⟩
          | false =>
            have HFB : Hid (fallB k (partD r l k) = false) := hfb
            have HI' : Hid (∀ j, j < k + 1 → j < r → IsT j (partD r l j) ∧ keyL l 0 ≤ keyL (partD r l j) 0) := by
              show ∀ j, _
              intro j hj hjr
              rcases Nat.lt_or_ge j k with a | a
              · exact HI.out j a hjr
              · obtain rfl : j = k := by omega
                exact ⟨fallB_isT HLN.out hfb, by rw [HKR.out, HKP.out]; omega⟩
            rw [hfb] at CF
            clear hfb
            go_wp2_with fail
            go_region_held3 (fun w' => w'.cell? ⟨b, o, none⟩ = some (.int .i64 kp) ∧ w'.cell? ⟨blk, off, none⟩ = some (.int .i64 kr)) (first | go_keep | (exact ⟨j0, j1⟩)) (first | (go_at_call 32; refine (CF.out _ (below_drewN (Below.refl _ _) 1)).mono ?_; rintro e w2 ⟨rfl, hb2'⟩; have hb2 : Below wr.heap.size wr w2 := (below_drewN (Below.refl _ _) 1).trans hb2'; have j0 := (hb2.cell (p := ⟨b, o, none⟩) hbr).trans x0; have j1 := (hb2.cell (p := ⟨blk, off, none⟩) hblr).trans x1; clear hb2'))
            all_goals
              go_wp2
              go_roundg (6 - (k + 1))
              case measure => omega
              case rel => exact ⟨k + 1, by go_num, by omega, Nat.le_refl _, HI', HB.out.trans (hb2.mono hB)⟩
      · have hm : m = 0 := by
          have : m = (partD r l k).length := hs.count
          unfold partD at this; rw [if_neg hkr] at this; exact this
        subst hm
        have HI' : Hid (∀ j, j < k + 1 → j < r → IsT j (partD r l j) ∧ keyL l 0 ≤ keyL (partD r l j) 0) := by
          show ∀ j, _
          intro j hj hjr
          rcases Nat.lt_or_ge j k with a | a
          · exact HI.out j a hjr
          · omega
        clear hs
        go_wp2_with fail
        go_quiet (fail)
        go_wp2
        go_roundg (6 - (k + 1))
        case measure => omega
        case rel => exact ⟨k + 1, by go_num, by omega, Nat.le_refl _, HI', below_drewN HB.out nq⟩
    · obtain rfl : k = 6 := by omega
      have HF : Hid (fallB r l = false) := fallB_no ((isT_parts HL.out).2 fun j hj => HI.out j (by omega) hj)
      go_wp2
      go_ret
      exact ⟨by rw [HF.out]; rfl, HB.out⟩
theorem falls_to : ∀ (m r : Nat), r < m → r ≤ 5 → ∀ (v : Value) (l : List (Int × Int)) (w : World), Sl w v l.toArray → l.length = 2 ^ r → Calls Tryd.prog 32 #[v] w fun e w' => e = .returned (.bool (fallB r l)) ∧ Below w.heap.size w w'
  | 0, r, h, _, _, _, _, _, _ => absurd h (Nat.not_lt_zero _)
  | m + 1, r, h, h5, v, l, w, hs, hl => by
    have hp := two_pos r
    obtain ⟨p, c, rfl, hc, h0 | ⟨blk, off, rfl, hr⟩⟩ := hs
    · rw [List.size_toArray, hl] at h0; omega
    · rw [List.size_toArray] at hc ⊢
      exact falls_step r blk off l.length c l w h5 (by omega) rfl hl hr hc fun j hj v l w a b => falls_to m j (by omega) (by omega) v l w a b
theorem falls_any (r : Nat) (hr : r ≤ 5) (v : Value) (l : List (Int × Int)) (w : World) (hs : Sl w v l.toArray) (hl : l.length = 2 ^ r) : Calls Tryd.prog 32 #[v] w fun e w' => e = .returned (.bool (fallB r l)) ∧ Below w.heap.size w w' := falls_to (r + 1) r (Nat.lt_succ_self r) hr v l w hs hl
#print axioms falls_any
end Go.Proofs.YtmkjalpgeljnkaaDoor

/-
  copy at items; rows of one's own that make and copy lay.
-/
namespace Go.Proofs.YtmkjalpgeljnkaaDoor
open Go.RowKit Go.Sort Go.Proofs

/-! ### copy at elements of k cells -/
theorem run_copyK {P : Program} (w : World) (dT sT ty elem : TypeId) (k b o dLen dCap : Nat) (a : Addr) (sLen sCap : Nat) (cs : List Value)
    (hu : P.underlying dT = some (.slice elem)) (hs : (P.info? elem).map (·.size) = some k) (hn : cs.length = Nat.min sLen dLen * k)
    (hsrc : ∀ j v, cs[j]? = some v → w.cell? (a.add j) = some v) (hc : ∀ j, j < cs.length → (w.cell? ⟨b, o + j, none⟩).isSome = true) (hf : ∀ j, j < cs.length → w.frozen? ⟨b, o + j, none⟩ = false) (h1 : ∀ v ∈ cs, v.oneCell' = true) :
    (Builtin.copy_ #[dT, sT] ty #[.slice (some ⟨b, o, none⟩) dLen dCap, .slice (some a) sLen sCap]).run P w = .ok (goInt (Nat.min sLen dLen)) (w.setCells b o cs) := by
  have hl := run_loadCells_list (P := P) w a cs hsrc
  have hst := run_storeCells_cells (P := P) b o cs 0 w (by simpa using hc) (by simpa using hf) h1
  cases hq : P.info? elem with
  | none => simp [hq] at hs
  | some i =>
    have hi : i.size = k := by simpa [hq] using hs
    simp [Builtin.copy_, run_underlying hu, Builtin.lenOf, Builtin.firstCells, sizeOf, typeInfo, hq, hi, ← hn, hl, hst]
theorem run_copyK_none {P : Program} (w : World) (dT sT ty elem : TypeId) (k : Nat) (d a : Option Addr) (dLen dCap sLen sCap : Nat) (hu : P.underlying dT = some (.slice elem)) (hs : (P.info? elem).map (·.size) = some k) (hn : Nat.min sLen dLen = 0) :
    (Builtin.copy_ #[dT, sT] ty #[.slice d dLen dCap, .slice a sLen sCap]).run P w = .ok (goInt 0) w := by
  cases hq : P.info? elem with
  | none => simp [hq] at hs
  | some i =>
    have hl : ∀ (x : Addr), (loadCells x 0).run P w = .ok #[] w := fun x => by simpa using run_loadCells_list (P := P) w x [] (by simp)
    cases d <;> cases a <;> simp [Builtin.copy_, run_underlying hu, Builtin.lenOf, Builtin.firstCells, sizeOf, typeInfo, hq, hn, storeCells, hl]
theorem wpList_copyK {P : Program} {w : World} {ops : Array Oper} {rest : List Oper} {o : Oper} {a : Act} {Q : Exit → Act → World → Prop} (hgd : o.guard = none) (d s : Operand) (dT sT : TypeId)
    (ho : o.op = .call { callee := .builtin .copy, args := #[d, s], argTypes := #[dT, sT] }) (elem : TypeId) (hu : P.underlying dT = some (.slice elem)) (k : Nat) (hsz : (P.info? elem).map (·.size) = some k)
    (g off dLen dCap : Nat) (ad : Addr) (sLen sCap : Nat) (hd : a.eval d = .slice (some ⟨g, off, none⟩) dLen dCap) (hs : a.eval s = .slice (some ad) sLen sCap)
    (cs : List Value) (hn : cs.length = Nat.min sLen dLen * k)
    (hsrc : ∀ j v, cs[j]? = some v → w.cell? (ad.add j) = some v) (hc : ∀ j, j < cs.length → (w.cell? ⟨g, off + j, none⟩).isSome = true) (hf : ∀ j, j < cs.length → w.frozen? ⟨g, off + j, none⟩ = false) (h1 : ∀ v ∈ cs, v.oneCell' = true)
    (h : wpList P ops Q rest (a.put o.dst (goInt (Nat.min sLen dLen))) (w.setCells g off cs)) : wpList P ops Q (o :: rest) a w := by
  refine wpList_plain hgd fun K hK => ?_
  have hrun := run_copyK (P := P) w dT sT o.type elem k g off dLen dCap ad sLen sCap cs hu hsz hn hsrc hc hf h1
  unfold Oper.wp
  simp [execOp, ho, resolve, invoke, builtin, hd, hs, hrun, Result.andThen]
  exact hK _ _ h
theorem wpList_copyK_none {P : Program} {w : World} {ops : Array Oper} {rest : List Oper} {o : Oper} {a : Act} {Q : Exit → Act → World → Prop} (hgd : o.guard = none) (d s : Operand) (dT sT : TypeId)
    (ho : o.op = .call { callee := .builtin .copy, args := #[d, s], argTypes := #[dT, sT] }) (elem : TypeId) (hu : P.underlying dT = some (.slice elem)) (k : Nat) (hsz : (P.info? elem).map (·.size) = some k)
    (dp sp : Option Addr) (dLen dCap sLen sCap : Nat) (hd : a.eval d = .slice dp dLen dCap) (hs : a.eval s = .slice sp sLen sCap) (hn : Nat.min sLen dLen = 0)
    (h : wpList P ops Q rest (a.put o.dst (goInt 0)) w) : wpList P ops Q (o :: rest) a w := by
  refine wpList_plain hgd fun K hK => ?_
  have hrun := run_copyK_none (P := P) w dT sT o.type elem k dp sp dLen dCap sLen sCap hu hsz hn
  unfold Oper.wp
  simp [execOp, ho, resolve, invoke, builtin, hd, hs, hrun, Result.andThen]
  exact hK _ _ h

/-! ### rows of items, flat -/
theorem flatI_get (xs : Array (Int × Int)) (t : Nat) (h : t < xs.size * 2) : (flatK encI 2 xs)[t]! = if t % 2 = 0 then .int .i64 xs[t / 2]!.1 else .int .i64 xs[t / 2]!.2 := by
  rw [get_flatK _ _ _ _ h]
  unfold encI
  split
  · rename_i e; rw [e]; rfl
  · rename_i e; rw [show t % 2 = 1 by omega]; rfl
theorem RdAt.flat {w : World} {blk off : Nat} {xs : Array (Int × Int)} (h : RdAt w blk off xs) (t : Nat) (ht : t < xs.size * 2) : w.cell? ⟨blk, off + t, none⟩ = some (flatK encI 2 xs)[t]! := by
  rw [flatI_get xs t ht]
  have := h.2 (t / 2) (by omega)
  by_cases c : t % 2 = 0
  · rw [if_pos c, show off + t = off + t / 2 * 2 by omega]; exact this.1
  · rw [if_neg c, show off + t = off + t / 2 * 2 + 1 by omega]; exact this.2
theorem flatI_one (xs : Array (Int × Int)) : ∀ v ∈ (flatK encI 2 xs).toList, v.oneCell' = true := by
  intro v hv
  obtain ⟨t, ht, rfl⟩ := List.getElem_of_mem hv
  have ht' : t < xs.size * 2 := by simpa using ht
  have e : (flatK encI 2 xs).toList[t] = (flatK encI 2 xs)[t]! := by rw [getElem!_pos _ t (by simpa using ht'), Array.getElem_toList]
  rw [e, flatI_get xs t ht']
  split <;> rfl
theorem holdsK_of_copy {w : World} {g : Nat} {xs : Array (Int × Int)} (hc : ∀ j, j < xs.size * 2 → (w.cell? ⟨g, j, none⟩).isSome = true) (hf : ∀ j, j < xs.size * 2 → w.frozen? ⟨g, j, none⟩ = false) :
    HoldsK encI 2 (w.setCells g 0 (flatK encI 2 xs).toList) g 0 xs := by
  intro j hj
  have hj' : j < xs.size * 2 := by simpa using hj
  refine ⟨?_, by rw [World.frozen?_setCells]; simpa using hf j hj'⟩
  have := World.cell?_setCells_in g (flatK encI 2 xs).toList 0 w (fun i hi => by simpa using hc i (by simpa using hi)) j (by simpa using hj')
  rw [this, Array.getElem_toList, getElem!_pos _ j hj]
  rfl
theorem below_setCells {B g : Nat} {w0 : World} (hBg : B ≤ g) : ∀ (vs : List Value) (o : Nat) (w : World), Below B w0 w → Below B w0 (w.setCells g o vs)
  | [], _, _, h => h
  | v :: r, o, w, h => by rw [World.setCells]; exact below_setCells hBg r (o + 1) _ (h.setCell (p := ⟨g, o, none⟩) hBg v)
theorem errV_zero : errV 0 = .nilIface := rfl
theorem errV_pos {k : Nat} (h : k ≠ 0) : errV k = .iface 56 (.int .i64 k) := if_neg h
theorem wrong_le {xs : Array (Int × Int)} (h : wrong xs = 0) : xs.size ≤ 60 := by
  unfold wrong at h
  by_cases c : 60 < xs.size
  · rw [if_pos c] at h; omega
  · omega

theorem info_item : (Tryd.prog.info? 24).map (fun i => (i.zero, i.size, i.bytes)) = some (some (.agg #[.int .i64 0, .int .i64 0]), 2, 16) := by kernel_rfl
theorem size_item : (Tryd.prog.info? 24).map (·.size) = some 2 := by kernel_rfl

theorem owned_cells {w : World} {base n g : Nat} {L : List Value} (h : w.ownsRow base 24 2 (.slice (some ⟨g, 0, none⟩) n n) n L) :
    g < w.heap.size ∧ (∀ j, j < n * 2 → (w.cell? ⟨g, j, none⟩).isSome = true) ∧ ∀ j, j < n * 2 → w.frozen? ⟨g, j, none⟩ = false := by
  obtain ⟨_, ⟨h, _⟩ | ⟨g', cap, cur, e, _, hg, _, _, hs, _⟩⟩ := h
  · cases h
  · simp only [Value.slice.injEq, Option.some.injEq, Addr.mk.injEq] at e
    obtain ⟨⟨rfl, _⟩, _, rfl⟩ := e
    have hlt : g < w.heap.size := (Array.getElem?_eq_some_iff.1 hg).1
    refine ⟨hlt, fun j hj => ?_, fun j hj => ?_⟩
    · simp [World.cell?, hg, show j < cur.size by omega]
    · simp [World.frozen?, hg]


end Go.Proofs.YtmkjalpgeljnkaaDoor

/-
  bino.Check: what is wrong with a heap of trees.
-/
namespace Go.Proofs.YtmkjalpgeljnkaaDoor
open Go.RowKit Go.Sort Go.Proofs

theorem rankE_len : ∀ {h : List (Int × List (Int × Int))} {last : Int}, rankE last h = 0 → last ≤ 5 → (h.length : Int) ≤ 5 - last
  | [], last, _, h5 => by simp; omega
  | (r, l) :: h, last, e, h5 => by
    obtain ⟨h1, _⟩ := rankE_zero e
    have h2 := h1 (r, l) List.mem_cons_self
    simp only at h2
    simp only [rankE] at e
    rw [if_neg (by omega), if_neg (fun q => q.elim (fun a => by omega) (fun a => a h2.2.2.2))] at e
    have := rankE_len e (by omega)
    rw [List.length_cons]
    omega
theorem wrong_small {l : List (Int × Int)} (h : l.length ≤ 60) : wrong l.toArray = if anyOut l.toArray then 1 else 0 := by
  unfold wrong; rw [if_neg (by rw [List.size_toArray]; omega)]
theorem take_all {P : (Int × List (Int × Int)) → Prop} {h : List (Int × List (Int × Int))} {i : Nat} {x : Int × List (Int × Int)} (hx : h[i]? = some x) (ha : ∀ t ∈ h.take i, P t) (hp : P x) : ∀ t ∈ h.take (i + 1), P t := by
  obtain ⟨hi, e⟩ := List.getElem?_eq_some_iff.1 hx
  intro t ht
  rw [List.take_succ_eq_append_getElem hi, e] at ht
  rcases List.mem_append.1 ht with q | q
  · exact ha t q
  · rw [List.mem_singleton.1 q]; exact hp

set_option maxHeartbeats 16000000 in
set_option maxRecDepth 4000 in
theorem dcheck_bad (p : Option Addr) (n cap k : Nat) (h : List (Int × List (Int × Int))) (w : World) (hn : n ≤ 9223372036854775807) (HN : Hid (h.length = n)) (HA : Hid (HpAt w (.slice p n cap) h)) (HL : Hid (∀ t ∈ h, t.2.length ≤ 9223372036854775807)) (h0 : k ≠ 0) (HK : Hid (rankE (-1) h = k)) :
    Calls Tryd.prog 9 #[.slice p n cap] w fun e w' => e = .returned (.iface 56 (.int .i64 k)) ∧ Below w.heap.size w w' := by
  have c1 := ranks_some p n cap h w hn HN HA HL
  rw [HK.out, errV_pos h0] at c1
  go_enter Tryd.func9, Tryd.ntmps9
  go_wp2_with fail
  refine c1.mono ?_
  rintro e w1 ⟨rfl, hb⟩
  go_wp2
  go_ret
  exact ⟨rfl, hb⟩

set_option maxHeartbeats 32000000 in
set_option maxRecDepth 4000 in
theorem dcheck_good (p : Option Addr) (n cap : Nat) (h : List (Int × List (Int × Int))) (w : World) (HN : Hid (h.length = n)) (HA : Hid (HpAt w (.slice p n cap) h)) (HR : Hid (rankE (-1) h = 0)) :
    Calls Tryd.prog 9 #[.slice p n cap] w fun e w' => e = .returned (errV (binoE h)) ∧ Below w.heap.size w w' := by
  have HZ : Hid (∀ t ∈ h, 0 ≤ t.1 ∧ t.1 ≤ 5 ∧ t.2.length = 2 ^ t.1.toNat ∧ t.2.length ≤ 32) := by
    show ∀ t ∈ h, _
    intro t ht
    obtain ⟨_, a, b, c⟩ := (rankE_zero HR.out).1 t ht
    exact ⟨a, b, c, by rw [c]; exact Nat.pow_le_pow_right (show 0 < 2 by omega) (show t.1.toNat ≤ 5 by omega)⟩
  have hn6 : n ≤ 6 := by have := rankE_len HR.out (by omega); rw [HN.out] at this; omega
  have c1 := ranks_some p n cap h w (by omega) HN HA (fun t ht => by have := (HZ.out t ht).2.2.2; omega)
  rw [HR.out, errV_zero] at c1
  go_enter Tryd.func9, Tryd.ntmps9
  go_wp2_with fail
  refine c1.mono ?_
  rintro e w1 ⟨rfl, hb1⟩
  clear c1
  go_wp2
  go_loopg [4, 17] n (fun gg v4 v17 wr => ∃ (i m : Nat), v4 = .int .i64 m ∧ v17 = .int .i64 i ∧ i ≤ n ∧ n - i ≤ gg ∧ m ≤ 32 * i ∧ Hid (m = sizeZ (h.take i)) ∧ Hid (∀ t ∈ h.take i, anyOut t.2.toArray = false) ∧ Hid (Below w.heap.size w wr))
  case atStart => exact ⟨0, 0, rfl, rfl, Nat.zero_le _, by omega, by omega, (show 0 = _ by simp [sizeZ]), (fun t ht => by simp at ht), hb1⟩
  case round =>
    obtain ⟨i, m, rfl, rfl, hin, hg, hm, HM, HO, HB⟩ := hrel
    have hB : w.heap.size ≤ wr.heap.size := HB.out.size
    by_cases hlt : i < n
    · have hlz : (i : Int) < (n : Int) := by omega
      obtain ⟨⟨r, l⟩, hx⟩ : ∃ x, h[i]? = some x := ⟨h[i]'(by rw [HN.out]; omega), by simp⟩
      obtain ⟨blk, off, q, c, rfl, hblk, c0, c1, hsl⟩ := HA.out.tree hx
      have hl32 : l.length ≤ 32 := (HZ.out _ (List.mem_of_getElem? hx)).2.2.2
      have t0 := (HB.out.cell (p := ⟨blk, off + i * 2, none⟩) hblk).trans c0
      have t1 := (HB.out.cell (p := ⟨blk, off + i * 2 + 1, none⟩) hblk).trans c1
      have hbw : blk < wr.heap.size := by omega
      have CC : Hid (∀ W, Below wr.heap.size wr W → Calls Tryd.prog 31 #[.slice q l.length c] W fun e w' => e = .returned (errV (wrong l.toArray)) ∧ Below W.heap.size W w') := fun W hb => check_any _ _ W ((hsl.below HB.out).below hb) (by rw [List.size_toArray]; omega)
      rw [wrong_small (by omega)] at CC
      have HX : Hid (h[i]? = some (r, l)) := hx
      have HBA : Hid (Below wr.heap.size wr (wr.alloc (.cells #[.int .i64 r, .slice q l.length c] 37))) := (Below.refl _ _).alloc (Nat.le_refl _) _
      have HS : Hid (sizeZ (h.take (i + 1)) = m + l.length) := by show _ = _; rw [sizeZ_take_succ hx, ← HM.out]
      cases ho : anyOut l.toArray with
      | true =>
        have HE : Hid (binoE h = 1) := outE_bad HR.out hx ho
        rw [ho] at CC
        simp only [if_true] at CC
        clear hx c0 c1 hsl ho
        generalize l.length = ln at *
        go_wp2_with fail
        refine (CC.out _ HBA.out).mono ?_
        rintro e w2 ⟨rfl, hb2'⟩
        have hb2 := HBA.out.trans (hb2'.mono HBA.out.size)
        have e1 : errV 1 = .iface 56 (.int .i64 1) := rfl
        rw [e1]
        go_wp2
        go_ret
        exact ⟨by rw [HE.out]; rfl, HB.out.trans (hb2.mono hB)⟩
      | false =>
        have HO' : Hid (∀ t ∈ h.take (i + 1), anyOut t.2.toArray = false) := take_all hx HO.out ho
        rw [ho] at CC
        simp only [Bool.false_eq_true, if_false] at CC
        clear hx c0 c1 hsl ho
        generalize l.length = ln at *
        go_wp2_with fail
        refine (CC.out _ HBA.out).mono ?_
        rintro e w2 ⟨rfl, hb2'⟩
        have hb2 := HBA.out.trans (hb2'.mono HBA.out.size)
        have y1 : w2.cell? ⟨wr.heap.size, 1, none⟩ = some (.slice q ln c) := (hb2'.cell (p := ⟨wr.heap.size, 1, none⟩) (by simp)).trans (by simp)
        have e0 : errV 0 = .nilIface := rfl
        have hw : IntKind.i64.wrap ((m : Int) + (ln : Int)) = (m : Int) + (ln : Int) := by rw [IntKind.wrap_i64]; omega
        rw [e0]
        clear hb2'
        go_wp2
        go_roundg (n - (i + 1))
        case measure => omega
        case rel => exact ⟨i + 1, m + ln, by go_num, by go_num, by omega, Nat.le_refl _, by omega, HS.out.symm, HO', HB.out.trans (hb2.mono hB)⟩
    · obtain rfl : i = n := by omega
      have HME : Hid (m = sizeZ h) := by show _ = _; have := HM.out; rw [List.take_of_length_le (by rw [HN.out]; omega)] at this; exact this
      have HOE : Hid (outE h = 0) := outE_good (by have := HO.out; rw [List.take_of_length_le (by rw [HN.out]; omega)] at this; exact this)
      clear HM HO
      by_cases h60 : 60 < m
      · have h60z : (60 : Int) < (m : Int) := by omega
        have HE : Hid (binoE h = 4) := by show _ = _; unfold binoE; rw [if_pos HR.out, if_pos HOE.out, if_pos (by rw [← HME.out]; exact h60)]
        go_wp2
        go_ret
        exact ⟨by rw [HE.out]; rfl, HB.out⟩
      · have h60z : ¬ (60 : Int) < (m : Int) := by omega
        have HSZ : Hid (¬ 60 < sizeZ h) := by show ¬ _; rw [← HME.out]; exact h60
        go_wp2
        go_loopg [38] i (fun gg v38 wr => ∃ j : Nat, v38 = .int .i64 j ∧ j ≤ i ∧ i - j ≤ gg ∧ Hid (∀ t ∈ h.take j, keysB t = true) ∧ Hid (Below w.heap.size w wr))
        case atStart => exact ⟨0, rfl, Nat.zero_le _, by omega, (fun t ht => by simp at ht), HB⟩
        case round =>
          obtain ⟨j, rfl, hjn, hg2, HKS, HB2⟩ := hrel
          have hB2 : w.heap.size ≤ wr.heap.size := HB2.out.size
          by_cases hlt2 : j < i
          · have hlz2 : (j : Int) < (i : Int) := by omega
            obtain ⟨⟨r, l⟩, hx⟩ : ∃ x, h[j]? = some x := ⟨h[j]'(by rw [HN.out]; omega), by simp⟩
            obtain ⟨blk, off, q, c, rfl, hblk, c0, c1, hsl⟩ := HA.out.tree hx
            obtain ⟨hr0, hr5, hlr, hl32⟩ := HZ.out _ (List.mem_of_getElem? hx)
            simp only at hr0 hr5 hlr hl32
            have t0 := (HB2.out.cell (p := ⟨blk, off + j * 2, none⟩) hblk).trans c0
            have t1 := (HB2.out.cell (p := ⟨blk, off + j * 2 + 1, none⟩) hblk).trans c1
            have hbw : blk < wr.heap.size := by omega
            have CF : Hid (∀ W, Below wr.heap.size wr W → Calls Tryd.prog 32 #[.slice q l.length c] W fun e w' => e = .returned (.bool (fallB r.toNat l)) ∧ Below W.heap.size W w') := fun W hb => falls_any r.toNat (by omega) _ l W ((hsl.below HB2.out).below hb) hlr
            have HX : Hid (h[j]? = some (r, l)) := hx
            have HBA : Hid (Below wr.heap.size wr (wr.alloc (.cells #[.int .i64 r, .slice q l.length c] 37))) := (Below.refl _ _).alloc (Nat.le_refl _) _
            have HRZ : Hid (((r.toNat : Nat) : Int) = r) := Int.toNat_of_nonneg hr0
            clear hlr
            cases hf : fallB r.toNat l with
            | true =>
              have HE : Hid (binoE h = 3) := keysE_bad HR.out HOE.out HSZ.out hx (by
                unfold fallB at hf
                rw [HRZ.out] at hf
                cases e : keysB (r, l)
                · rfl
                · rw [e] at hf; cases hf)
              rw [hf] at CF
              clear hx c0 c1 hsl hf
              generalize l.length = ln at *
              go_wp2_with fail
              refine (CF.out _ HBA.out).mono ?_
              rintro e w2 ⟨rfl, hb2'⟩
              have hb2 := HBA.out.trans (hb2'.mono HBA.out.size)
              go_wp2
              go_ret
              exact ⟨by rw [HE.out]; rfl, HB2.out.trans (hb2.mono hB2)⟩
            | false =>
              have HKS' : Hid (∀ t ∈ h.take (j + 1), keysB t = true) := take_all (P := fun t => keysB t = true) hx HKS.out (by
                unfold fallB at hf
                rw [HRZ.out] at hf
                cases e : keysB (r, l)
                · rw [e] at hf; cases hf
                · rfl)
              rw [hf] at CF
              clear hx c0 c1 hsl hf
              generalize l.length = ln at *
              go_wp2_with fail
              refine (CF.out _ HBA.out).mono ?_
              rintro e w2 ⟨rfl, hb2'⟩
              have hb2 := HBA.out.trans (hb2'.mono HBA.out.size)
              go_wp2
              go_roundg (i - (j + 1))
              case measure => omega
              case rel => exact ⟨j + 1, by go_num, by omega, Nat.le_refl _, HKS', HB2.out.trans (hb2.mono hB2)⟩
          · have hlz2 : ¬ (j : Int) < (i : Int) := by omega
            have HE : Hid (binoE h = 0) := binoE_good HR.out HOE.out HSZ.out (by have := HKS.out; rw [List.take_of_length_le (by rw [HN.out]; omega)] at this; exact this)
            go_wp2
            go_ret
            exact ⟨by rw [HE.out]; rfl, HB2.out⟩
theorem dcheck_any (v : Value) (h : List (Int × List (Int × Int))) (w : World) (HA : HpAt w v h) (hn : h.length ≤ 9223372036854775807) (hl : ∀ t ∈ h, t.2.length ≤ 9223372036854775807) :
    Calls Tryd.prog 9 #[v] w fun e w' => e = .returned (errV (binoE h)) ∧ Below w.heap.size w w' := by
  obtain ⟨p, c, rfl⟩ := HA.form
  by_cases h0 : rankE (-1) h = 0
  · exact dcheck_good p _ c h w rfl HA h0
  · have e : binoE h = rankE (-1) h := by unfold binoE; rw [if_neg h0]
    rw [e, errV_pos h0]
    exact dcheck_bad p _ c _ h w hn rfl HA hl h0 rfl
#print axioms dcheck_any
end Go.Proofs.YtmkjalpgeljnkaaDoor

/-
  bino.read: the trees of a heap at their ranks.
-/
namespace Go.Proofs.YtmkjalpgeljnkaaDoor
open Go.RowKit Go.Sort Go.Proofs

set_option maxHeartbeats 4000000 in
set_option maxRecDepth 4000 in
theorem read_some (p : Option Addr) (n cap : Nat) (h : List TrL) (w : World) (hn : n ≤ 100) (HN : Hid (h.length = n)) (HA : Hid (HpF w w (.slice p n cap) h)) (HI : Hid (h.Pairwise (fun a b => a.1 < b.1))) (HR : Hid (∀ t ∈ h, t.1 < 6)) :
    Calls Tryd.prog 34 #[.slice p n cap] w fun e w' => ∃ d, e = .returned (agV d) ∧ DgAt w d (digitH h) ∧ Below w.heap.size w w' := by
  go_enter Tryd.func34, Tryd.ntmps34
  go_wp2
  go_loopg [8] n (fun gg vi wr => ∃ (i : Nat) (d : List SlV), vi = .int .i64 i ∧ i ≤ n ∧ n - i ≤ gg ∧ Hid (WrE ES wr (w.heap.size + 1) 0 d) ∧ Hid (WrE ES wr w.heap.size 0 (List.replicate 6 (none, 0, 0))) ∧ Hid (DgAt w d (digitH (h.take i))) ∧ Hid (Below w.heap.size w wr))
  case atStart => obtain ⟨a1, a2, a3⟩ := new_two w 62; exact ⟨0, _, rfl, Nat.zero_le _, by omega, a1, a2, DgAt.start w, a3⟩
  case round =>
    obtain ⟨i, d, rfl, hin, hg, HW, HO, HD, HB⟩ := hrel
    by_cases hlt : i < n
    · have hlz : (i : Int) < (n : Int) := by omega
      obtain ⟨⟨r, l⟩, hx⟩ : ∃ x, h[i]? = some x := ⟨h[i]'(by rw [HN.out]; omega), by simp⟩
      obtain ⟨blk, off, q, c, rfl, hblk, c0, c1, hsl⟩ := HA.out.tree hx
      have hr6 : r < 6 := HR.out (r, l) (List.mem_of_getElem? hx)
      have hr6z : (r : Int) < 6 := by omega
      have t0 := (HB.out.cell (p := ⟨blk, off + i * 2, none⟩) hblk).trans c0
      have t1 := (HB.out.cell (p := ⟨blk, off + i * 2 + 1, none⟩) hblk).trans c1
      have hB : w.heap.size ≤ wr.heap.size := HB.out.size
      have hbw : blk < wr.heap.size := by omega
      have hlw : w.heap.size + 1 < wr.heap.size := HW.out.lt
      obtain ⟨s0, e0, _⟩ := HD.out.2 r hr6
      obtain ⟨k0, k1⟩ := HW.out.row e0
      have HD' : Hid (DgAt w (d.set r (q, l.length, c)) (digitH (h.take (i + 1)))) := (HD.out.set (r := r) hsl).congr fun j _ => digitH_take HI.out hx j
      have hgs : wr.grownBy (wr.setCell ⟨w.heap.size + 1, r, none⟩ (.slice q l.length c)) (some (w.heap.size + 1)) := gb_setCell wr ⟨w.heap.size + 1, r, none⟩ (.slice q l.length c)
      have HB' : Hid (∀ o, Below w.heap.size w ((wr.setCell ⟨w.heap.size + 1, r, none⟩ (.slice q l.length c)).alloc o)) := fun o => (below_gb HB.out hgs (by omega) hB).alloc (by rw [size_setCell]; exact hB) o
      have HW' : Hid (∀ o, WrE ES ((wr.setCell ⟨w.heap.size + 1, r, none⟩ (.slice q l.length c)).alloc o) (w.heap.size + 1) 0 (d.set r (q, l.length, c))) := fun o => (HW.out.setRow (i := r) (by rw [HD.out.1]; exact hr6) (q, l.length, c)).alloc' o
      have HO' : Hid (∀ o, WrE ES ((wr.setCell ⟨w.heap.size + 1, r, none⟩ (.slice q l.length c)).alloc o) w.heap.size 0 (List.replicate 6 (none, 0, 0))) := fun o => (HO.out.kept hgs (fun e => by have := Option.some.inj e; omega)).alloc' o
      generalize l.length = ln at *
      clear c0 c1 hx hsl e0 hgs HD
      go_wp2
      go_roundg (n - (i + 1))
      case measure => omega
      case rel => exact ⟨i + 1, _, by go_num, by omega, Nat.le_refl _, HW'.out _, HO'.out _, HD', HB'.out _⟩
    · have hlz : ¬ (i : Int) < (n : Int) := by omega
      have HDE : Hid (DgAt w d (digitH h)) := by show DgAt _ _ _; have := HD.out; rw [List.take_of_length_le (by rw [HN.out]; omega)] at this; exact this
      obtain ⟨s0, s1, s2, s3, s4, s5, rfl⟩ := six HD.out.1
      obtain ⟨⟨c0, c1, c2, c3, c4, c5⟩, _⟩ := HW.out.six
      obtain ⟨⟨d0, d1, d2, d3, d4, d5⟩, ⟨f0, f1, f2, f3, f4, f5⟩⟩ := HO.out.six
      have hB : w.heap.size ≤ wr.heap.size := HB.out.size
      clear HD
      go_wp2
      refine bodyPost_ret (by simp [results, Tryd.results34, go_sem, d0, d1, d2, d3, d4, d5]; try rfl) rfl ?_
      exact ⟨_, rfl, HDE.out, below_six HB.out (Nat.le_refl _) _ _ _ _ _ _⟩
theorem read_any (v : Value) (g : List TrL) (w : World) (H : HpAt w v (zH g)) (hg : OkH g) :
    Calls Tryd.prog 34 #[v] w fun e w' => ∃ d, e = .returned (agV d) ∧ DgAt w d (digitH g) ∧ Below w.heap.size w w' := by
  have HF := H.toF (Below.refl _ _)
  obtain ⟨p, c, e⟩ := HF.shape
  subst e
  exact read_some p g.length c g w (by have := hg.len_le; omega) rfl HF hg.isH.rise fun t ht => by have := hg.rank t ht; omega
#print axioms read_any
end Go.Proofs.YtmkjalpgeljnkaaDoor

/-
  bino.linked: one tree of two.
-/
namespace Go.Proofs.YtmkjalpgeljnkaaDoor
open Go.RowKit Go.Sort Go.Proofs

set_option maxHeartbeats 4000000 in
theorem linked_S1 (ba oa na ca bb ob nb cb : Nat) (x0 x1 y0 y1 : Int) (a b : List (Int × Int)) (w : World) (ha60 : na ≤ 1000) (hb60 : nb ≤ 1000) (hna : 0 < na) (hnb : 0 < nb) (hone : cb = 1) (hx : y0 < x0) (HNA : Hid (a.length + 1 = na)) (HNB : Hid (b.length + 1 = nb)) (hca : na ≤ ca) (hcb : nb ≤ cb)
    (HA : Hid (RdAt w ba oa ((x0, x1) :: a).toArray)) (HB : Hid (RdAt w bb ob ((y0, y1) :: b).toArray)) :
    Calls Tryd.prog 55 #[.slice (some ⟨ba, oa, none⟩) na ca, .slice (some ⟨bb, ob, none⟩) nb cb] w fun e w' => ∃ u, e = .returned u ∧ OwnI w' w.heap.size u ((y0, y1) :: (((x0, x1) :: a) ++ b)) ∧ Below w.heap.size w w' := by
  subst hone
  obtain rfl : nb = 1 := by omega
  have hzA : (0 : Int) < (na : Int) := by omega
  have hzB : (0 : Int) < (1 : Int) := by omega
  have hz1 : (1 : Int) ≤ (1 : Int) := by omega
  have hw : IntKind.i64.wrap ((1 : Int) + (na : Int)) = (1 : Int) + (na : Int) := by rw [IntKind.wrap_i64]; omega
  have hd : decide (y0 < x0) = true := decide_eq_true hx
  obtain ⟨i0, hi, hi0, hi1, hi2⟩ := info_parts info_item
  obtain ⟨a0, a1⟩ := HA.out.2 0 (by simp)
  obtain ⟨b0, b1⟩ := HB.out.2 0 (by simp)
  simp only [Nat.zero_mul, Nat.add_zero] at a0 a1 b0 b1
  have a0' : w.cell? ⟨ba, oa, none⟩ = some (.int .i64 x0) := a0
  have a1' : w.cell? ⟨ba, oa + 1, none⟩ = some (.int .i64 x1) := a1
  have b0' : w.cell? ⟨bb, ob, none⟩ = some (.int .i64 y0) := b0
  have b1' : w.cell? ⟨bb, ob + 1, none⟩ = some (.int .i64 y1) := b1
  clear a0 a1 b0 b1
  have HSU : Hid (Sl w (.slice (some ⟨ba, oa, none⟩) na ca) ((x0, x1) :: a).toArray) := by
    show Sl _ _ _; have := Sl.of_rd (cap := ca) HA.out (by rw [List.size_toArray, List.length_cons, HNA.out]; omega); rw [show ((x0, x1) :: a).toArray.size = na by rw [List.size_toArray, List.length_cons]; exact HNA.out] at this; exact this
  have HT : Hid (Sl w (.slice (some ⟨bb, ob, none⟩) 0 0) b.toArray) := Sl.empty w _ _ _ b (by have := HNB.out; omega) (by omega)
  go_enter Tryd.func55, Tryd.ntmps55
  go_wp2_with fail
  go_quiet (fail)
  have hq : Below w.heap.size w (w.drewN nq) := below_drewN (Below.refl _ _) nq
  have hltq : bb < (w.drewN nq).heap.size := HB.out.1
  have k0 : (w.drewN nq).cell? ⟨bb, ob, none⟩ = some (.int .i64 y0) := b0'
  have k1 : (w.drewN nq).cell? ⟨bb, ob + 1, none⟩ = some (.int .i64 y1) := b1'
  have hsq : w.heap.size ≤ (w.drewN nq).heap.size := Nat.le_refl _
  clear a0' a1' b0' b1'
  generalize w.drewN nq = wq at hq k0 k1 hsq hltq ⊢
  go_wp2_with (first | (at_make; refine wpList_make_own _ rfl _ (.tmp 25) 35 rfl w.heap.size 24 i0 (.agg #[.int .i64 0, .int .i64 0]) 2 Tryd.underlying35 hi hi0 hi1 .i64 .i64 _ (1 + na) rfl rfl (by omega) (by rw [hi2]; omega) (by unfold maxLen; omega) hsq ?_; intro w0 hown hgr; have hB0 : Below wq.heap.size wq w0 := (Below.refl _ _).grown hgr (Nat.le_refl _) (fun k e => by cases e); have hb0 : Below w.heap.size w w0 := hq.trans (hB0.mono hsq); have hO0 : OwnI w0 w.heap.size (.slice (some ⟨wq.heap.size, 0, none⟩) 0 (1 + na)) [] := hown; have HO0 : Hid (OwnI w0 w.heap.size (.slice (some ⟨wq.heap.size, 0, none⟩) 0 (1 + na)) []) := hO0; have l0 : w0.cell? ⟨bb, ob, none⟩ = some (.int .i64 y0) := (hB0.cell (p := ⟨bb, ob, none⟩) hltq).trans k0; have l1 : w0.cell? ⟨bb, ob + 1, none⟩ = some (.int .i64 y1) := (hB0.cell (p := ⟨bb, ob + 1, none⟩) hltq).trans k1; have hal : Below w.heap.size w (w0.alloc (.cells #[.int .i64 y0, .int .i64 y1] 24)) := hb0.alloc hb0.size _; clear hown hgr hO0 hB0 k0 k1) | (at_builtin; refine wpList_append_item rfl (.tmp 27) (.tmp 31) rfl w.heap.size _ [] (y0, y1) ⟨w0.heap.size, 0, none⟩ 1 rfl (HO0.out.alloc _) rfl (by simp) (by simp [Addr.add]) (by simp) hal.size ?_; intro v1 w1 hA1 hg1 _; have hb1 : Below w.heap.size w w1 := hal.trans (below_of_grown (HO0.out.alloc _) hg1 (Nat.le_refl _) hal.size); have HA1 : Hid (OwnI w1 w.heap.size v1 ([] ++ [(y0, y1)])) := hA1; clear hA1 hg1) | (at_builtin; refine wpList_append_sl rfl (.tmp 33) (.tmp 34) rfl w.heap.size v1 _ _ ((x0, x1) :: a).toArray rfl rfl HA1.out (HSU.out.below hb1) (by simp; have h1 := HNA.out; have h2 := HNB.out; omega) hb1.size ?_; intro v2 w2 hA2 hg2; have hb2 : Below w.heap.size w w2 := hb1.trans (below_of_grown HA1.out hg2 (Nat.le_refl _) hb1.size); have HA2 : Hid (OwnI w2 w.heap.size v2 (([] ++ [(y0, y1)]) ++ ((x0, x1) :: a).toArray.toList)) := hA2; clear hA2 hg2) | (at_builtin; refine wpList_append_sl rfl (.tmp 36) (.tmp 38) rfl w.heap.size v2 _ _ b.toArray rfl rfl HA2.out (HT.out.below hb2) (by simp; have h1 := HNA.out; have h2 := HNB.out; omega) hb2.size ?_; intro v3 w3 hA3 hg3; have hb3 : Below w.heap.size w w3 := hb2.trans (below_of_grown HA2.out hg3 (Nat.le_refl _) hb2.size); have HA3 : Hid (OwnI w3 w.heap.size v3 ((([] ++ [(y0, y1)]) ++ ((x0, x1) :: a).toArray.toList) ++ b.toArray.toList)) := hA3; clear hA3 hg3))
  go_ret
  exact ⟨_, rfl, by simpa using HA3.out, hb3⟩
set_option maxHeartbeats 4000000 in
theorem linked_S2 (ba oa na ca bb ob nb cb : Nat) (x0 x1 y0 y1 : Int) (a b : List (Int × Int)) (w : World) (ha60 : na ≤ 1000) (hb60 : nb ≤ 1000) (hna : 0 < na) (hnb : 0 < nb) (hone : cb ≠ 1) (hx : y0 < x0) (HNA : Hid (a.length + 1 = na)) (HNB : Hid (b.length + 1 = nb)) (hca : na ≤ ca) (hcb : nb ≤ cb)
    (HA : Hid (RdAt w ba oa ((x0, x1) :: a).toArray)) (HB : Hid (RdAt w bb ob ((y0, y1) :: b).toArray)) :
    Calls Tryd.prog 55 #[.slice (some ⟨ba, oa, none⟩) na ca, .slice (some ⟨bb, ob, none⟩) nb cb] w fun e w' => ∃ u, e = .returned u ∧ OwnI w' w.heap.size u ((y0, y1) :: (((x0, x1) :: a) ++ b)) ∧ Below w.heap.size w w' := by
  have hzA : (0 : Int) < (na : Int) := by omega
  have hzB : (0 : Int) < (nb : Int) := by omega
  have hz1 : (1 : Int) ≤ (nb : Int) := by omega
  have hw : IntKind.i64.wrap ((nb : Int) + (na : Int)) = (nb : Int) + (na : Int) := by rw [IntKind.wrap_i64]; omega
  have hd : decide (y0 < x0) = true := decide_eq_true hx
  obtain ⟨i0, hi, hi0, hi1, hi2⟩ := info_parts info_item
  obtain ⟨a0, a1⟩ := HA.out.2 0 (by simp)
  obtain ⟨b0, b1⟩ := HB.out.2 0 (by simp)
  simp only [Nat.zero_mul, Nat.add_zero] at a0 a1 b0 b1
  have a0' : w.cell? ⟨ba, oa, none⟩ = some (.int .i64 x0) := a0
  have a1' : w.cell? ⟨ba, oa + 1, none⟩ = some (.int .i64 x1) := a1
  have b0' : w.cell? ⟨bb, ob, none⟩ = some (.int .i64 y0) := b0
  have b1' : w.cell? ⟨bb, ob + 1, none⟩ = some (.int .i64 y1) := b1
  clear a0 a1 b0 b1
  have HSU : Hid (Sl w (.slice (some ⟨ba, oa, none⟩) na ca) ((x0, x1) :: a).toArray) := by
    show Sl _ _ _; have := Sl.of_rd (cap := ca) HA.out (by rw [List.size_toArray, List.length_cons, HNA.out]; omega); rw [show ((x0, x1) :: a).toArray.size = na by rw [List.size_toArray, List.length_cons]; exact HNA.out] at this; exact this
  have HT : Hid (Sl w (.slice (some ⟨bb, ob + 2, none⟩) (nb - 1) (cb - 1)) b.toArray) := Sl.tail HB.out HNB.out hcb
  go_enter Tryd.func55, Tryd.ntmps55
  go_wp2_with fail
  go_quiet (fail)
  have hq : Below w.heap.size w (w.drewN nq) := below_drewN (Below.refl _ _) nq
  have hltq : bb < (w.drewN nq).heap.size := HB.out.1
  have k0 : (w.drewN nq).cell? ⟨bb, ob, none⟩ = some (.int .i64 y0) := b0'
  have k1 : (w.drewN nq).cell? ⟨bb, ob + 1, none⟩ = some (.int .i64 y1) := b1'
  have hsq : w.heap.size ≤ (w.drewN nq).heap.size := Nat.le_refl _
  clear a0' a1' b0' b1'
  generalize w.drewN nq = wq at hq k0 k1 hsq hltq ⊢
  go_wp2_with (first | (at_make; refine wpList_make_own _ rfl _ (.tmp 25) 35 rfl w.heap.size 24 i0 (.agg #[.int .i64 0, .int .i64 0]) 2 Tryd.underlying35 hi hi0 hi1 .i64 .i64 _ (nb + na) rfl rfl (by omega) (by rw [hi2]; omega) (by unfold maxLen; omega) hsq ?_; intro w0 hown hgr; have hB0 : Below wq.heap.size wq w0 := (Below.refl _ _).grown hgr (Nat.le_refl _) (fun k e => by cases e); have hb0 : Below w.heap.size w w0 := hq.trans (hB0.mono hsq); have hO0 : OwnI w0 w.heap.size (.slice (some ⟨wq.heap.size, 0, none⟩) 0 (nb + na)) [] := hown; have HO0 : Hid (OwnI w0 w.heap.size (.slice (some ⟨wq.heap.size, 0, none⟩) 0 (nb + na)) []) := hO0; have l0 : w0.cell? ⟨bb, ob, none⟩ = some (.int .i64 y0) := (hB0.cell (p := ⟨bb, ob, none⟩) hltq).trans k0; have l1 : w0.cell? ⟨bb, ob + 1, none⟩ = some (.int .i64 y1) := (hB0.cell (p := ⟨bb, ob + 1, none⟩) hltq).trans k1; have hal : Below w.heap.size w (w0.alloc (.cells #[.int .i64 y0, .int .i64 y1] 24)) := hb0.alloc hb0.size _; clear hown hgr hO0 hB0 k0 k1) | (at_builtin; refine wpList_append_item rfl (.tmp 27) (.tmp 31) rfl w.heap.size _ [] (y0, y1) ⟨w0.heap.size, 0, none⟩ 1 rfl (HO0.out.alloc _) rfl (by simp) (by simp [Addr.add]) (by simp) hal.size ?_; intro v1 w1 hA1 hg1 _; have hb1 : Below w.heap.size w w1 := hal.trans (below_of_grown (HO0.out.alloc _) hg1 (Nat.le_refl _) hal.size); have HA1 : Hid (OwnI w1 w.heap.size v1 ([] ++ [(y0, y1)])) := hA1; clear hA1 hg1) | (at_builtin; refine wpList_append_sl rfl (.tmp 33) (.tmp 34) rfl w.heap.size v1 _ _ ((x0, x1) :: a).toArray rfl rfl HA1.out (HSU.out.below hb1) (by simp; have h1 := HNA.out; have h2 := HNB.out; omega) hb1.size ?_; intro v2 w2 hA2 hg2; have hb2 : Below w.heap.size w w2 := hb1.trans (below_of_grown HA1.out hg2 (Nat.le_refl _) hb1.size); have HA2 : Hid (OwnI w2 w.heap.size v2 (([] ++ [(y0, y1)]) ++ ((x0, x1) :: a).toArray.toList)) := hA2; clear hA2 hg2) | (at_builtin; refine wpList_append_sl rfl (.tmp 36) (.tmp 38) rfl w.heap.size v2 _ _ b.toArray rfl rfl HA2.out (HT.out.below hb2) (by simp; have h1 := HNA.out; have h2 := HNB.out; omega) hb2.size ?_; intro v3 w3 hA3 hg3; have hb3 : Below w.heap.size w w3 := hb2.trans (below_of_grown HA2.out hg3 (Nat.le_refl _) hb2.size); have HA3 : Hid (OwnI w3 w.heap.size v3 ((([] ++ [(y0, y1)]) ++ ((x0, x1) :: a).toArray.toList) ++ b.toArray.toList)) := hA3; clear hA3 hg3))
  go_ret
  exact ⟨_, rfl, by simpa using HA3.out, hb3⟩
set_option maxHeartbeats 4000000 in
theorem linked_F1 (ba oa na ca bb ob nb cb : Nat) (x0 x1 y0 y1 : Int) (a b : List (Int × Int)) (w : World) (ha60 : na ≤ 1000) (hb60 : nb ≤ 1000) (hna : 0 < na) (hnb : 0 < nb) (hone : ca = 1) (hx : ¬ y0 < x0) (HNA : Hid (a.length + 1 = na)) (HNB : Hid (b.length + 1 = nb)) (hca : na ≤ ca) (hcb : nb ≤ cb)
    (HA : Hid (RdAt w ba oa ((x0, x1) :: a).toArray)) (HB : Hid (RdAt w bb ob ((y0, y1) :: b).toArray)) :
    Calls Tryd.prog 55 #[.slice (some ⟨ba, oa, none⟩) na ca, .slice (some ⟨bb, ob, none⟩) nb cb] w fun e w' => ∃ u, e = .returned u ∧ OwnI w' w.heap.size u ((x0, x1) :: (((y0, y1) :: b) ++ a)) ∧ Below w.heap.size w w' := by
  subst hone
  obtain rfl : na = 1 := by omega
  have hzA : (0 : Int) < (1 : Int) := by omega
  have hzB : (0 : Int) < (nb : Int) := by omega
  have hz1 : (1 : Int) ≤ (1 : Int) := by omega
  have hw : IntKind.i64.wrap ((1 : Int) + (nb : Int)) = (1 : Int) + (nb : Int) := by rw [IntKind.wrap_i64]; omega
  have hd : decide (y0 < x0) = false := decide_eq_false hx
  obtain ⟨i0, hi, hi0, hi1, hi2⟩ := info_parts info_item
  obtain ⟨a0, a1⟩ := HA.out.2 0 (by simp)
  obtain ⟨b0, b1⟩ := HB.out.2 0 (by simp)
  simp only [Nat.zero_mul, Nat.add_zero] at a0 a1 b0 b1
  have a0' : w.cell? ⟨ba, oa, none⟩ = some (.int .i64 x0) := a0
  have a1' : w.cell? ⟨ba, oa + 1, none⟩ = some (.int .i64 x1) := a1
  have b0' : w.cell? ⟨bb, ob, none⟩ = some (.int .i64 y0) := b0
  have b1' : w.cell? ⟨bb, ob + 1, none⟩ = some (.int .i64 y1) := b1
  clear a0 a1 b0 b1
  have HSU : Hid (Sl w (.slice (some ⟨bb, ob, none⟩) nb cb) ((y0, y1) :: b).toArray) := by
    show Sl _ _ _; have := Sl.of_rd (cap := cb) HB.out (by rw [List.size_toArray, List.length_cons, HNB.out]; omega); rw [show ((y0, y1) :: b).toArray.size = nb by rw [List.size_toArray, List.length_cons]; exact HNB.out] at this; exact this
  have HT : Hid (Sl w (.slice (some ⟨ba, oa, none⟩) 0 0) a.toArray) := Sl.empty w _ _ _ a (by have := HNA.out; omega) (by omega)
  go_enter Tryd.func55, Tryd.ntmps55
  go_wp2_with fail
  go_quiet (fail)
  have hq : Below w.heap.size w (w.drewN nq) := below_drewN (Below.refl _ _) nq
  have hltq : ba < (w.drewN nq).heap.size := HA.out.1
  have k0 : (w.drewN nq).cell? ⟨ba, oa, none⟩ = some (.int .i64 x0) := a0'
  have k1 : (w.drewN nq).cell? ⟨ba, oa + 1, none⟩ = some (.int .i64 x1) := a1'
  have hsq : w.heap.size ≤ (w.drewN nq).heap.size := Nat.le_refl _
  clear a0' a1' b0' b1'
  generalize w.drewN nq = wq at hq k0 k1 hsq hltq ⊢
  go_wp2_with (first | (at_make; refine wpList_make_own _ rfl _ (.tmp 25) 35 rfl w.heap.size 24 i0 (.agg #[.int .i64 0, .int .i64 0]) 2 Tryd.underlying35 hi hi0 hi1 .i64 .i64 _ (1 + nb) rfl rfl (by omega) (by rw [hi2]; omega) (by unfold maxLen; omega) hsq ?_; intro w0 hown hgr; have hB0 : Below wq.heap.size wq w0 := (Below.refl _ _).grown hgr (Nat.le_refl _) (fun k e => by cases e); have hb0 : Below w.heap.size w w0 := hq.trans (hB0.mono hsq); have hO0 : OwnI w0 w.heap.size (.slice (some ⟨wq.heap.size, 0, none⟩) 0 (1 + nb)) [] := hown; have HO0 : Hid (OwnI w0 w.heap.size (.slice (some ⟨wq.heap.size, 0, none⟩) 0 (1 + nb)) []) := hO0; have l0 : w0.cell? ⟨ba, oa, none⟩ = some (.int .i64 x0) := (hB0.cell (p := ⟨ba, oa, none⟩) hltq).trans k0; have l1 : w0.cell? ⟨ba, oa + 1, none⟩ = some (.int .i64 x1) := (hB0.cell (p := ⟨ba, oa + 1, none⟩) hltq).trans k1; have hal : Below w.heap.size w (w0.alloc (.cells #[.int .i64 x0, .int .i64 x1] 24)) := hb0.alloc hb0.size _; clear hown hgr hO0 hB0 k0 k1) | (at_builtin; refine wpList_append_item rfl (.tmp 27) (.tmp 31) rfl w.heap.size _ [] (x0, x1) ⟨w0.heap.size, 0, none⟩ 1 rfl (HO0.out.alloc _) rfl (by simp) (by simp [Addr.add]) (by simp) hal.size ?_; intro v1 w1 hA1 hg1 _; have hb1 : Below w.heap.size w w1 := hal.trans (below_of_grown (HO0.out.alloc _) hg1 (Nat.le_refl _) hal.size); have HA1 : Hid (OwnI w1 w.heap.size v1 ([] ++ [(x0, x1)])) := hA1; clear hA1 hg1) | (at_builtin; refine wpList_append_sl rfl (.tmp 33) (.tmp 34) rfl w.heap.size v1 _ _ ((y0, y1) :: b).toArray rfl rfl HA1.out (HSU.out.below hb1) (by simp; have h1 := HNA.out; have h2 := HNB.out; omega) hb1.size ?_; intro v2 w2 hA2 hg2; have hb2 : Below w.heap.size w w2 := hb1.trans (below_of_grown HA1.out hg2 (Nat.le_refl _) hb1.size); have HA2 : Hid (OwnI w2 w.heap.size v2 (([] ++ [(x0, x1)]) ++ ((y0, y1) :: b).toArray.toList)) := hA2; clear hA2 hg2) | (at_builtin; refine wpList_append_sl rfl (.tmp 36) (.tmp 38) rfl w.heap.size v2 _ _ a.toArray rfl rfl HA2.out (HT.out.below hb2) (by simp; have h1 := HNA.out; have h2 := HNB.out; omega) hb2.size ?_; intro v3 w3 hA3 hg3; have hb3 : Below w.heap.size w w3 := hb2.trans (below_of_grown HA2.out hg3 (Nat.le_refl _) hb2.size); have HA3 : Hid (OwnI w3 w.heap.size v3 ((([] ++ [(x0, x1)]) ++ ((y0, y1) :: b).toArray.toList) ++ a.toArray.toList)) := hA3; clear hA3 hg3))
  go_ret
  exact ⟨_, rfl, by simpa using HA3.out, hb3⟩
set_option maxHeartbeats 4000000 in
theorem linked_F2 (ba oa na ca bb ob nb cb : Nat) (x0 x1 y0 y1 : Int) (a b : List (Int × Int)) (w : World) (ha60 : na ≤ 1000) (hb60 : nb ≤ 1000) (hna : 0 < na) (hnb : 0 < nb) (hone : ca ≠ 1) (hx : ¬ y0 < x0) (HNA : Hid (a.length + 1 = na)) (HNB : Hid (b.length + 1 = nb)) (hca : na ≤ ca) (hcb : nb ≤ cb)
    (HA : Hid (RdAt w ba oa ((x0, x1) :: a).toArray)) (HB : Hid (RdAt w bb ob ((y0, y1) :: b).toArray)) :
    Calls Tryd.prog 55 #[.slice (some ⟨ba, oa, none⟩) na ca, .slice (some ⟨bb, ob, none⟩) nb cb] w fun e w' => ∃ u, e = .returned u ∧ OwnI w' w.heap.size u ((x0, x1) :: (((y0, y1) :: b) ++ a)) ∧ Below w.heap.size w w' := by
  have hzA : (0 : Int) < (na : Int) := by omega
  have hzB : (0 : Int) < (nb : Int) := by omega
  have hz1 : (1 : Int) ≤ (na : Int) := by omega
  have hw : IntKind.i64.wrap ((na : Int) + (nb : Int)) = (na : Int) + (nb : Int) := by rw [IntKind.wrap_i64]; omega
  have hd : decide (y0 < x0) = false := decide_eq_false hx
  obtain ⟨i0, hi, hi0, hi1, hi2⟩ := info_parts info_item
  obtain ⟨a0, a1⟩ := HA.out.2 0 (by simp)
  obtain ⟨b0, b1⟩ := HB.out.2 0 (by simp)
  simp only [Nat.zero_mul, Nat.add_zero] at a0 a1 b0 b1
  have a0' : w.cell? ⟨ba, oa, none⟩ = some (.int .i64 x0) := a0
  have a1' : w.cell? ⟨ba, oa + 1, none⟩ = some (.int .i64 x1) := a1
  have b0' : w.cell? ⟨bb, ob, none⟩ = some (.int .i64 y0) := b0
  have b1' : w.cell? ⟨bb, ob + 1, none⟩ = some (.int .i64 y1) := b1
  clear a0 a1 b0 b1
  have HSU : Hid (Sl w (.slice (some ⟨bb, ob, none⟩) nb cb) ((y0, y1) :: b).toArray) := by
    show Sl _ _ _; have := Sl.of_rd (cap := cb) HB.out (by rw [List.size_toArray, List.length_cons, HNB.out]; omega); rw [show ((y0, y1) :: b).toArray.size = nb by rw [List.size_toArray, List.length_cons]; exact HNB.out] at this; exact this
  have HT : Hid (Sl w (.slice (some ⟨ba, oa + 2, none⟩) (na - 1) (ca - 1)) a.toArray) := Sl.tail HA.out HNA.out hca
  go_enter Tryd.func55, Tryd.ntmps55
  go_wp2_with fail
  go_quiet (fail)
  have hq : Below w.heap.size w (w.drewN nq) := below_drewN (Below.refl _ _) nq
  have hltq : ba < (w.drewN nq).heap.size := HA.out.1
  have k0 : (w.drewN nq).cell? ⟨ba, oa, none⟩ = some (.int .i64 x0) := a0'
  have k1 : (w.drewN nq).cell? ⟨ba, oa + 1, none⟩ = some (.int .i64 x1) := a1'
  have hsq : w.heap.size ≤ (w.drewN nq).heap.size := Nat.le_refl _
  clear a0' a1' b0' b1'
  generalize w.drewN nq = wq at hq k0 k1 hsq hltq ⊢
  go_wp2_with (first | (at_make; refine wpList_make_own _ rfl _ (.tmp 25) 35 rfl w.heap.size 24 i0 (.agg #[.int .i64 0, .int .i64 0]) 2 Tryd.underlying35 hi hi0 hi1 .i64 .i64 _ (na + nb) rfl rfl (by omega) (by rw [hi2]; omega) (by unfold maxLen; omega) hsq ?_; intro w0 hown hgr; have hB0 : Below wq.heap.size wq w0 := (Below.refl _ _).grown hgr (Nat.le_refl _) (fun k e => by cases e); have hb0 : Below w.heap.size w w0 := hq.trans (hB0.mono hsq); have hO0 : OwnI w0 w.heap.size (.slice (some ⟨wq.heap.size, 0, none⟩) 0 (na + nb)) [] := hown; have HO0 : Hid (OwnI w0 w.heap.size (.slice (some ⟨wq.heap.size, 0, none⟩) 0 (na + nb)) []) := hO0; have l0 : w0.cell? ⟨ba, oa, none⟩ = some (.int .i64 x0) := (hB0.cell (p := ⟨ba, oa, none⟩) hltq).trans k0; have l1 : w0.cell? ⟨ba, oa + 1, none⟩ = some (.int .i64 x1) := (hB0.cell (p := ⟨ba, oa + 1, none⟩) hltq).trans k1; have hal : Below w.heap.size w (w0.alloc (.cells #[.int .i64 x0, .int .i64 x1] 24)) := hb0.alloc hb0.size _; clear hown hgr hO0 hB0 k0 k1) | (at_builtin; refine wpList_append_item rfl (.tmp 27) (.tmp 31) rfl w.heap.size _ [] (x0, x1) ⟨w0.heap.size, 0, none⟩ 1 rfl (HO0.out.alloc _) rfl (by simp) (by simp [Addr.add]) (by simp) hal.size ?_; intro v1 w1 hA1 hg1 _; have hb1 : Below w.heap.size w w1 := hal.trans (below_of_grown (HO0.out.alloc _) hg1 (Nat.le_refl _) hal.size); have HA1 : Hid (OwnI w1 w.heap.size v1 ([] ++ [(x0, x1)])) := hA1; clear hA1 hg1) | (at_builtin; refine wpList_append_sl rfl (.tmp 33) (.tmp 34) rfl w.heap.size v1 _ _ ((y0, y1) :: b).toArray rfl rfl HA1.out (HSU.out.below hb1) (by simp; have h1 := HNA.out; have h2 := HNB.out; omega) hb1.size ?_; intro v2 w2 hA2 hg2; have hb2 : Below w.heap.size w w2 := hb1.trans (below_of_grown HA1.out hg2 (Nat.le_refl _) hb1.size); have HA2 : Hid (OwnI w2 w.heap.size v2 (([] ++ [(x0, x1)]) ++ ((y0, y1) :: b).toArray.toList)) := hA2; clear hA2 hg2) | (at_builtin; refine wpList_append_sl rfl (.tmp 36) (.tmp 38) rfl w.heap.size v2 _ _ a.toArray rfl rfl HA2.out (HT.out.below hb2) (by simp; have h1 := HNA.out; have h2 := HNB.out; omega) hb2.size ?_; intro v3 w3 hA3 hg3; have hb3 : Below w.heap.size w w3 := hb2.trans (below_of_grown HA2.out hg3 (Nat.le_refl _) hb2.size); have HA3 : Hid (OwnI w3 w.heap.size v3 ((([] ++ [(x0, x1)]) ++ ((y0, y1) :: b).toArray.toList) ++ a.toArray.toList)) := hA3; clear hA3 hg3))
  go_ret
  exact ⟨_, rfl, by simpa using HA3.out, hb3⟩
theorem linked_any (va vb : Value) (a b : List (Int × Int)) (w : World) (ha : Sl w va a.toArray) (hb : Sl w vb b.toArray) (na : a ≠ []) (nb : b ≠ []) (la : a.length ≤ 1000) (lb : b.length ≤ 1000) :
    Calls Tryd.prog 55 #[va, vb] w fun e w' => ∃ u, e = .returned u ∧ OwnI w' w.heap.size u (linkL a b) ∧ Below w.heap.size w w' := by
  obtain ⟨⟨x0, x1⟩, a, rfl⟩ := List.exists_cons_of_ne_nil na
  obtain ⟨⟨y0, y1⟩, b, rfl⟩ := List.exists_cons_of_ne_nil nb
  obtain ⟨pa, ca, rfl, hca, h0 | ⟨ba, oa, rfl, hra⟩⟩ := ha
  · simp at h0
  obtain ⟨pb, cb, rfl, hcb, h0 | ⟨bb, ob, rfl, hrb⟩⟩ := hb
  · simp at h0
  simp only [List.size_toArray] at hca hcb ⊢
  unfold linkL
  by_cases hx : y0 < x0
  · simp only [if_pos hx]
    by_cases h1 : cb = 1
    · exact linked_S1 ba oa _ ca bb ob _ cb x0 x1 y0 y1 a b w la lb (by simp) (by simp) h1 hx rfl rfl hca hcb hra hrb
    · exact linked_S2 ba oa _ ca bb ob _ cb x0 x1 y0 y1 a b w la lb (by simp) (by simp) h1 hx rfl rfl hca hcb hra hrb
  · simp only [if_neg hx]
    by_cases h1 : ca = 1
    · exact linked_F1 ba oa _ ca bb ob _ cb x0 x1 y0 y1 a b w la lb (by simp) (by simp) h1 hx rfl rfl hca hcb hra hrb
    · exact linked_F2 ba oa _ ca bb ob _ cb x0 x1 y0 y1 a b w la lb (by simp) (by simp) h1 hx rfl rfl hca hcb hra hrb
#print axioms linked_any
end Go.Proofs.YtmkjalpgeljnkaaDoor
