/-
  Texts that the proof leans on, packed: Math, Enc, Rd, Open, Gen, Own, OwnA, ElT, BMath, BHeap, RefB1, RefB2.
-/
import Derived.Sort.LotA
import Derived.Sort.WalkA
import Derived.Test.YtmkjalpgeljnkaaDoorChecked
import Derived.WalkKit
import Derived.ProofKit
import Derived.LoopTactic
import Derived.Deep.LoopGhost
import Derived.BigQuiet
import Derived.BigRegion
import Derived.Shelf.SlSortCmp.KitK
import Derived.Test.YtmkjalpgeljnkaaDoorRows
import Derived.Deep.SlicePairs
import Derived.OpenShut
import Derived.ChangeOld
import Derived.OwnWalk
import Derived.Laws.IdiomCopy

/-
  Plain facts on arrays of items: what a stable sort keeps. Nothing of the program stands here.
-/
namespace Go.Proofs.YtmkjalpgeljnkaaDoor
open Go.Sort

/-- n exchanges at a distance. -/
def swapR (d : Array (Int × Int)) (a b : Nat) : Nat → Array (Int × Int)
  | 0 => d
  | n + 1 => swp (swapR d a b n) (a + n) (b + n)
theorem size_swapR (d : Array (Int × Int)) (a b : Nat) : ∀ n, (swapR d a b n).size = d.size
  | 0 => rfl
  | n + 1 => by rw [swapR, swp_size, size_swapR d a b n]

def swapIdx (a b n t : Nat) : Nat := if a ≤ t ∧ t < a + n then t - a + b else if b ≤ t ∧ t < b + n then t - b + a else t
theorem get_swapR (d : Array (Int × Int)) (a b : Nat) : ∀ n, a + n ≤ b → b + n ≤ d.size → ∀ t, (swapR d a b n)[t]! = d[swapIdx a b n t]!
  | 0, _, _, t => by simp [swapR, swapIdx]; split <;> (try split) <;> first | rfl | (exfalso; omega)
  | n + 1, h1, h2, t => by
    rw [swapR, swp_get _ (by rw [size_swapR]; omega) (by rw [size_swapR]; omega)]
    rw [get_swapR d a b n (by omega) (by omega), get_swapR d a b n (by omega) (by omega), get_swapR d a b n (by omega) (by omega)]
    unfold swapIdx
    repeat' split
    all_goals first | rfl | (congr 1; omega) | (exfalso; omega)

def rotIdx (a m b t : Nat) : Nat := if a ≤ t ∧ t < a + (b - m) then t - a + m else if a + (b - m) ≤ t ∧ t < b then t - (b - m) else t

/-- d' is d with two neighbouring stretches in each other's place. -/
def Rot (a m b : Nat) (d d' : Array (Int × Int)) : Prop := d'.size = d.size ∧ ∀ t, t < d.size → d'[t]! = d[rotIdx a m b t]!

theorem Rot.id_left (a b : Nat) (d : Array (Int × Int)) : Rot a a b d d := ⟨rfl, fun t _ => by
  unfold rotIdx; repeat' split
  all_goals first | rfl | (congr 1; omega)⟩
theorem Rot.id_right (a b : Nat) (d : Array (Int × Int)) : Rot a b b d d := ⟨rfl, fun t _ => by
  unfold rotIdx; repeat' split
  all_goals first | rfl | (congr 1; omega) | (exfalso; omega)⟩

/-- the end of a rotation: two stretches of one length -/
theorem rot_last (d : Array (Int × Int)) (m i : Nat) (hi : i ≤ m) (hm : m + i ≤ d.size) : Rot (m - i) m (m + i) d (swapR d (m - i) m i) := by
  refine ⟨size_swapR _ _ _ _, fun t _ => ?_⟩
  rw [get_swapR d _ _ _ (by omega) (by omega)]
  unfold swapIdx rotIdx
  repeat' split
  all_goals first | rfl | (congr 1; omega) | (exfalso; omega)
theorem rot_big (d d' : Array (Int × Int)) (m i j : Nat) (hji : j < i) (hi : i ≤ m) (hm : m + j ≤ d.size)
    (h : Rot (m - (i - j)) m (m + j) (swapR d (m - i) m j) d') : Rot (m - i) m (m + j) d d' := by
  obtain ⟨h1, h2⟩ := h
  rw [size_swapR] at h1 h2
  refine ⟨h1, fun t ht => ?_⟩
  rw [h2 t ht, get_swapR d _ _ _ (by omega) (by omega)]
  unfold swapIdx rotIdx
  repeat' split
  all_goals first | rfl | (congr 1; omega) | (exfalso; omega)
theorem rot_small (d d' : Array (Int × Int)) (m i j : Nat) (hij : i < j) (hi : i ≤ m) (hm : m + j ≤ d.size)
    (h : Rot (m - i) m (m + (j - i)) (swapR d (m - i) (m + j - i) i) d') : Rot (m - i) m (m + j) d d' := by
  obtain ⟨h1, h2⟩ := h
  rw [size_swapR] at h1 h2
  refine ⟨h1, fun t ht => ?_⟩
  rw [h2 t ht, get_swapR d _ _ _ (by omega) (by omega)]
  unfold swapIdx rotIdx
  repeat' split
  all_goals first | rfl | (congr 1; omega) | (exfalso; omega)

/-! ### what a stable sort keeps -/
/-- Of each key the same items, in their order. -/
def StEq (l l' : List (Int × Int)) : Prop := ∀ k : Int, l.filter (fun x => x.1 == k) = l'.filter (fun x => x.1 == k)

structure Mgd (a b : Nat) (d d' : Array (Int × Int)) : Prop where
  size : d'.size = d.size
  out : ∀ t, t < a ∨ b ≤ t → d'[t]! = d[t]!
  st : StEq d.toList d'.toList
  src : ∀ t, a ≤ t → t < b → ∃ s, a ≤ s ∧ s < b ∧ d'[t]! = d[s]!

theorem Mgd.refl (a b : Nat) (d : Array (Int × Int)) : Mgd a b d d := ⟨rfl, fun _ _ => rfl, fun _ => rfl, fun t h1 h2 => ⟨t, h1, h2, rfl⟩⟩
theorem Mgd.trans {a b : Nat} {d d' d'' : Array (Int × Int)} (h : Mgd a b d d') (g : Mgd a b d' d'') : Mgd a b d d'' :=
  ⟨g.size.trans h.size, fun t ht => (g.out t ht).trans (h.out t ht), fun k => (h.st k).trans (g.st k), fun t h1 h2 => by
    obtain ⟨s, s1, s2, e⟩ := g.src t h1 h2
    obtain ⟨u, u1, u2, f⟩ := h.src s s1 s2
    exact ⟨u, u1, u2, e.trans f⟩⟩
theorem Mgd.mono {a b a' b' : Nat} {d d' : Array (Int × Int)} (h : Mgd a b d d') (ha : a' ≤ a) (hb : b ≤ b') : Mgd a' b' d d' :=
  ⟨h.size, fun t ht => h.out t (by omega), h.st, fun t h1 h2 => by
    by_cases g : a ≤ t ∧ t < b
    · obtain ⟨s, s1, s2, e⟩ := h.src t g.1 g.2
      exact ⟨s, by omega, by omega, e⟩
    · exact ⟨t, h1, h2, h.out t (by omega)⟩⟩

theorem filter_nil_or {X Y : List (Int × Int)} (h : ∀ x ∈ X, ∀ y ∈ Y, x.1 ≠ y.1) (k : Int) : X.filter (fun x => x.1 == k) = [] ∨ Y.filter (fun x => x.1 == k) = [] := by
  by_cases hX : X.filter (fun x => x.1 == k) = []
  · exact Or.inl hX
  · right
    rw [List.filter_eq_nil_iff]
    intro y hy
    simp only [beq_iff_eq]
    intro e
    obtain ⟨x, hx⟩ := List.exists_mem_of_ne_nil _ hX
    rw [List.mem_filter] at hx
    have h1 : x.1 = k := by simpa using hx.2
    exact h x hx.1 y hy (h1.trans e.symm)

theorem getD_toList (d : Array (Int × Int)) (t : Nat) (h : t < d.toList.length) : d.toList[t] = d[t]! := by
  have h' : t < d.size := by simpa using h
  rw [getElem!_pos d t h', Array.getElem_toList]

theorem Mgd.rot {a m b : Nat} {d d' : Array (Int × Int)} (h : Rot a m b d d') (ham : a ≤ m) (hmb : m ≤ b) (hb : b ≤ d.size)
    (hne : ∀ i j, a ≤ i → i < m → m ≤ j → j < b → d[i]!.1 ≠ d[j]!.1) : Mgd a b d d' := by
  obtain ⟨hs, hg⟩ := h
  refine ⟨hs, fun t ht => ?_, ?_, fun t h1 h2 => ?_⟩
  · by_cases hlt : t < d.size
    · rw [hg t hlt]; congr 1; unfold rotIdx; repeat' split
      all_goals first | rfl | omega
    · rw [getElem!_neg d t hlt, getElem!_neg d' t (by rw [hs]; exact hlt)]
  · obtain ⟨P, hP⟩ : ∃ P, P = d.toList.take a := ⟨_, rfl⟩
    obtain ⟨X, hX⟩ : ∃ X, X = (d.toList.drop a).take (m - a) := ⟨_, rfl⟩
    obtain ⟨Y, hY⟩ : ∃ Y, Y = (d.toList.drop m).take (b - m) := ⟨_, rfl⟩
    obtain ⟨Z, hZ⟩ : ∃ Z, Z = d.toList.drop b := ⟨_, rfl⟩
    have lP : P.length = a := by rw [hP]; simp; omega
    have lX : X.length = m - a := by rw [hX]; simp; omega
    have lY : Y.length = b - m := by rw [hY]; simp; omega
    have lZ : Z.length = d.size - b := by rw [hZ]; simp
    have e1 : d.toList = P ++ (X ++ (Y ++ Z)) := by
      have q1 : d.toList.drop m = Y ++ Z := by
        rw [hY, hZ, show d.toList.drop b = (d.toList.drop m).drop (b - m) by rw [List.drop_drop]; congr 1; omega]; exact (List.take_append_drop _ _).symm
      have q2 : d.toList.drop a = X ++ (Y ++ Z) := by
        rw [← q1, hX, show d.toList.drop m = (d.toList.drop a).drop (m - a) by rw [List.drop_drop]; congr 1; omega]; exact (List.take_append_drop _ _).symm
      rw [← q2, hP]; exact (List.take_append_drop _ _).symm
    have gX : ∀ t (ht : t < X.length), X[t] = d[a + t]! := fun t ht => by
      subst hX; rw [List.getElem_take, List.getElem_drop, getD_toList]
    have gY : ∀ t (ht : t < Y.length), Y[t] = d[m + t]! := fun t ht => by
      subst hY; rw [List.getElem_take, List.getElem_drop, getD_toList]
    have gP : ∀ t (ht : t < P.length), P[t] = d[t]! := fun t ht => by
      subst hP; rw [List.getElem_take, getD_toList]
    have gZ : ∀ t (ht : t < Z.length), Z[t] = d[b + t]! := fun t ht => by
      subst hZ; rw [List.getElem_drop, getD_toList]
    have e2 : d'.toList = P ++ (Y ++ (X ++ Z)) := by
      refine List.ext_getElem (by simp; omega) fun t h1 h2 => ?_
      rw [getD_toList, hg t (by simpa [hs] using h1)]
      unfold rotIdx
      have hts : t < d.size := by simpa [hs] using h1
      by_cases c1 : t < a
      · rw [if_neg (by omega), if_neg (by omega), List.getElem_append_left (by omega), gP]
      · rw [List.getElem_append_right (by omega)]
        by_cases c2 : t < a + (b - m)
        · rw [if_pos (by omega), List.getElem_append_left (by omega), gY]; congr 1; omega
        · rw [if_neg (by omega), List.getElem_append_right (by omega)]
          by_cases c3 : t < b
          · rw [if_pos (by omega), List.getElem_append_left (by omega), gX]; congr 1; omega
          · rw [if_neg (by omega), List.getElem_append_right (by omega), gZ]; congr 1; omega
    intro k
    rw [e1, e2]
    simp only [List.filter_append]
    have hXY : ∀ x ∈ X, ∀ y ∈ Y, x.1 ≠ y.1 := fun x hx y hy => by
      obtain ⟨i, hi, rfl⟩ := List.getElem_of_mem hx
      obtain ⟨j, hj, rfl⟩ := List.getElem_of_mem hy
      rw [gX, gY]
      exact hne _ _ (by omega) (by omega) (by omega) (by omega)
    rcases filter_nil_or hXY k with q | q <;> rw [q] <;> simp
  · refine ⟨rotIdx a m b t, ?_, ?_, hg t (by omega)⟩
    all_goals (unfold rotIdx; repeat' split)
    all_goals omega

/-- Two neighbours in each other's place. -/
theorem rot_swp (d : Array (Int × Int)) (i : Nat) (h : i + 1 < d.size) : Rot i (i + 1) (i + 2) d (swp d i (i + 1)) := by
  refine ⟨swp_size _ _ _, fun t _ => ?_⟩
  rw [swp_get d (by omega) h]
  unfold rotIdx
  repeat' split
  all_goals first | rfl | (congr 1; omega) | (exfalso; omega)
theorem rot_swp' (d : Array (Int × Int)) (i : Nat) (h : i + 1 < d.size) : Rot i (i + 1) (i + 2) d (swp d (i + 1) i) := by
  refine ⟨swp_size _ _ _, fun t _ => ?_⟩
  rw [swp_get d h (by omega)]
  unfold rotIdx
  repeat' split
  all_goals first | rfl | (congr 1; omega) | (exfalso; omega)
theorem rot_up (a k : Nat) (d dk : Array (Int × Int)) (h : Rot a (a + 1) (k + 1) d dk) (hak : a ≤ k) (hk : k + 1 < d.size) : Rot a (a + 1) (k + 2) d (swp dk k (k + 1)) := by
  obtain ⟨h1, h2⟩ := h
  refine ⟨by rw [swp_size, h1], fun t ht => ?_⟩
  rw [swp_get dk (by omega) (by omega), h2 k (by omega), h2 (k + 1) (by omega), h2 t ht]
  unfold rotIdx
  repeat' split
  all_goals first | rfl | (congr 1; omega) | (exfalso; omega)
theorem rot_down (m k : Nat) (d dk : Array (Int × Int)) (h : Rot (k + 1) m (m + 1) d dk) (hk : k + 1 ≤ m) (hm : m < d.size) : Rot k m (m + 1) d (swp dk (k + 1) k) := by
  obtain ⟨h1, h2⟩ := h
  refine ⟨by rw [swp_size, h1], fun t ht => ?_⟩
  rw [swp_get dk (by omega) (by omega), h2 k (by omega), h2 (k + 1) (by omega), h2 t ht]
  unfold rotIdx
  repeat' split
  all_goals first | rfl | (congr 1; omega) | (exfalso; omega)

def Srt (a b : Nat) (d : Array (Int × Int)) : Prop := ∀ i j, a ≤ i → i ≤ j → j < b → d[i]!.1 ≤ d[j]!.1
theorem Srt.sub {a b a' b' : Nat} {d : Array (Int × Int)} (h : Srt a b d) (ha : a ≤ a') (hb : b' ≤ b) : Srt a' b' d := fun i j h1 h2 h3 => h i j (by omega) h2 (by omega)
theorem Srt.join {a m b : Nat} {d : Array (Int × Int)} (h : Srt a m d) (g : Srt m b d) (c : ∀ i j, a ≤ i → i < m → m ≤ j → j < b → d[i]!.1 ≤ d[j]!.1) : Srt a b d := fun i j h1 h2 h3 => by
  by_cases q1 : j < m
  · exact h i j h1 h2 q1
  · by_cases q2 : m ≤ i
    · exact g i j q2 h2 h3
    · exact c i j h1 (by omega) (by omega) h3
theorem Srt.congr {a b : Nat} {d d' : Array (Int × Int)} (h : Srt a b d) (e : ∀ t, a ≤ t → t < b → d'[t]! = d[t]!) : Srt a b d' := fun i j h1 h2 h3 => by
  rw [e i h1 (by omega), e j (by omega) h3]; exact h i j h1 h2 h3
theorem Srt.shift {a b a' : Nat} {d d' : Array (Int × Int)} {n : Nat} (h : Srt a b d) (hn : a + n ≤ b) (e : ∀ t, t < n → d'[a' + t]! = d[a + t]!) : Srt a' (a' + n) d' := fun i j h1 h2 h3 => by
  obtain ⟨u, rfl⟩ : ∃ u, i = a' + u := ⟨i - a', by omega⟩
  obtain ⟨v, rfl⟩ : ∃ v, j = a' + v := ⟨j - a', by omega⟩
  rw [e u (by omega), e v (by omega)]; exact h _ _ (by omega) (by omega) (by omega)

/-- The heart of the merge: where the halves are cut, and what a rotation makes of them. -/
theorem sym_cut {a m b s : Nat} {d e : Array (Int × Int)} (ham : a < m) (hmb : m < b) (hb : b ≤ d.size) (h1 : Srt a m d) (h2 : Srt m b d)
    {mid s0 r0 : Nat} (hmid : mid = (a + b) / 2) (hs0 : s0 = if mid < m then mid + m - b else a) (hr0 : r0 = if mid < m then mid else m)
    (hs : s0 ≤ s) (hr : s ≤ r0) (lo : ∀ c, s0 ≤ c → c < s → d[c]!.1 ≤ d[mid + m - 1 - c]!.1) (hi : ∀ c, s ≤ c → c < r0 → d[mid + m - 1 - c]!.1 < d[c]!.1)
    (hrot : Rot s m (mid + m - s) d e) :
    Mgd a b d e ∧ a ≤ s ∧ s ≤ mid ∧ mid ≤ mid + m - s ∧ mid + m - s ≤ b ∧ Srt a s e ∧ Srt s mid e ∧ Srt mid (mid + m - s) e ∧ Srt (mid + m - s) b e ∧
      ∀ i j, a ≤ i → i < mid → mid ≤ j → j < b → e[i]!.1 ≤ e[j]!.1 := by
  have hsm : s ≤ m ∧ a ≤ s ∧ s ≤ mid ∧ mid + m - s ≤ b ∧ a < mid ∧ mid < b ∧ (s = r0 → s = m ∨ mid + m - s = m) ∧ (s = s0 → s = a ∨ mid + m - s = b) := by
    by_cases q : mid < m
    · rw [if_pos q] at hs0 hr0; refine ⟨?_, ?_, ?_, ?_, ?_, ?_, ?_, ?_⟩ <;> omega
    · rw [if_neg q] at hs0 hr0; refine ⟨?_, ?_, ?_, ?_, ?_, ?_, ?_, ?_⟩ <;> omega
  obtain ⟨k1, k2, k3, k4, k5, k6, k7, k8⟩ := hsm
  have cross : ∀ i j, s ≤ i → i < m → m ≤ j → j < mid + m - s → d[j]!.1 < d[i]!.1 := fun i j c1 c2 c3 c4 => by
    have hlt : s < r0 := by omega
    have q1 := hi s (Nat.le_refl _) hlt
    have q2 := h2 j (mid + m - 1 - s) c3 (by omega) (by omega)
    have q3 := h1 s i k2 c1 c2
    omega
  have cross2 : ∀ i j, a ≤ i → i < s → mid + m - s ≤ j → j < b → d[i]!.1 ≤ d[j]!.1 := fun i j c1 c2 c3 c4 => by
    have hlt : s0 < s := by omega
    have q1 := lo (s - 1) (by omega) (by omega)
    rw [show mid + m - 1 - (s - 1) = mid + m - s by omega] at q1
    have q2 := h2 (mid + m - s) j (by omega) c3 c4
    have q3 := h1 i (s - 1) c1 (by omega) (by omega)
    omega
  obtain ⟨r1, r2⟩ := hrot
  have g1 : ∀ t, t < s → e[t]! = d[t]! := fun t ht => by
    rw [r2 t (by omega)]; congr 1; unfold rotIdx; rw [if_neg (by omega), if_neg (by omega)]
  have g2 : ∀ t, t < mid - s → e[s + t]! = d[m + t]! := fun t ht => by
    rw [r2 (s + t) (by omega)]; congr 1; unfold rotIdx; rw [if_pos (by omega)]; omega
  have g3 : ∀ t, t < m - s → e[mid + t]! = d[s + t]! := fun t ht => by
    rw [r2 (mid + t) (by omega)]; congr 1; unfold rotIdx; rw [if_neg (by omega), if_pos (by omega)]; omega
  have g4 : ∀ t, mid + m - s ≤ t → t < b → e[t]! = d[t]! := fun t ht ht' => by
    rw [r2 t (by omega)]; congr 1; unfold rotIdx; rw [if_neg (by omega), if_neg (by omega)]
  refine ⟨(Mgd.rot ⟨r1, r2⟩ k1 (by omega) (by omega) (fun i j c1 c2 c3 c4 => by have := cross i j c1 c2 c3 c4; omega)).mono k2 k4, k2, k3, by omega, k4, ?_, ?_, ?_, ?_, ?_⟩
  · exact (h1.sub (Nat.le_refl _) k1).congr fun t _ ht => g1 t ht
  · have := h2.shift (n := mid - s) (a' := s) (by omega) g2
    rwa [show s + (mid - s) = mid by omega] at this
  · have := (h1.sub k2 (Nat.le_refl _)).shift (n := m - s) (a' := mid) (by omega) g3
    rwa [show mid + (m - s) = mid + m - s by omega] at this
  · exact (h2.sub (by omega) (Nat.le_refl _)).congr fun t ht ht' => g4 t ht ht'
  · intro i j c1 c2 c3 c4
    by_cases qi : i < s
    · rw [g1 i qi]
      by_cases qj : j < mid + m - s
      · obtain ⟨v, rfl⟩ : ∃ v, j = mid + v := ⟨j - mid, by omega⟩
        rw [g3 v (by omega)]; exact h1 _ _ c1 (by omega) (by omega)
      · rw [g4 j (by omega) c4]; exact cross2 i j c1 qi (by omega) c4
    · obtain ⟨u, rfl⟩ : ∃ u, i = s + u := ⟨i - s, by omega⟩
      rw [g2 u (by omega)]
      by_cases qj : j < mid + m - s
      · obtain ⟨v, rfl⟩ : ∃ v, j = mid + v := ⟨j - mid, by omega⟩
        rw [g3 v (by omega)]
        have := cross (s + v) (m + u) (by omega) (by omega) (by omega) (by omega)
        omega
      · rw [g4 j (by omega) c4]; exact h2 _ _ (by omega) (by omega) c4

/-- One item put into its place among those behind it. -/
theorem sym_left {a b i : Nat} {d e : Array (Int × Int)} (hi : a + 1 ≤ i) (hb : b ≤ d.size) (hs : Srt (a + 1) b d) (lo : ∀ t, a + 1 ≤ t → t < i → d[t]!.1 < d[a]!.1)
    (hi' : ∀ t, i ≤ t → t < b → d[a]!.1 ≤ d[t]!.1) (hib : i ≤ b) (hr : Rot a (a + 1) i d e) : Mgd a b d e ∧ Srt a b e := by
  refine ⟨(Mgd.rot hr (by omega) hi (by omega) (fun u v c1 c2 c3 c4 => ?_)).mono (Nat.le_refl _) hib, ?_⟩
  · obtain rfl : u = a := by omega
    have := lo v c3 c4; omega
  · obtain ⟨_, r2⟩ := hr
    have g1 : ∀ t, t < i - (a + 1) → e[a + t]! = d[a + 1 + t]! := fun t ht => by
      rw [r2 _ (by omega)]; congr 1; unfold rotIdx; rw [if_pos (by omega)]; omega
    have g2 : e[i - 1]! = d[a]! := by
      rw [r2 _ (by omega)]; congr 1; unfold rotIdx; rw [if_neg (by omega), if_pos (by omega)]; omega
    have g3 : ∀ t, i ≤ t → t < b → e[t]! = d[t]! := fun t ht ht' => by
      rw [r2 _ (by omega)]; congr 1; unfold rotIdx; rw [if_neg (by omega), if_neg (by omega)]
    have s1 := hs.shift (n := i - (a + 1)) (a' := a) (by omega) g1
    rw [show a + (i - (a + 1)) = i - 1 by omega] at s1
    refine s1.join (Srt.join (m := i) ?_ ((hs.sub (by omega) (Nat.le_refl _)).congr g3) ?_) ?_
    · intro u v c1 c2 c3
      obtain rfl : u = i - 1 := by omega
      obtain rfl : v = i - 1 := by omega
      exact Int.le_refl _
    · intro u v c1 c2 c3 c4
      obtain rfl : u = i - 1 := by omega
      rw [g2, g3 v c3 c4]
      have := hi' v c3 c4; omega
    · intro u v c1 c2 c3 c4
      obtain ⟨p, rfl⟩ : ∃ p, u = a + p := ⟨u - a, by omega⟩
      rw [g1 p (by omega)]
      have q := lo (a + 1 + p) (by omega) (by omega)
      by_cases c : v < i
      · obtain rfl : v = i - 1 := by omega
        rw [g2]; omega
      · rw [g3 v (by omega) c4]; have := hi' v (by omega) c4; omega

/-- .. among those ahead of it. -/
theorem sym_right {a m i : Nat} {d e : Array (Int × Int)} (hai : a ≤ i) (him : i ≤ m) (hb : m < d.size) (hs : Srt a m d) (lo : ∀ t, a ≤ t → t < i → d[t]!.1 ≤ d[m]!.1)
    (hi' : ∀ t, i ≤ t → t < m → d[m]!.1 < d[t]!.1) (hr : Rot i m (m + 1) d e) : Mgd a (m + 1) d e ∧ Srt a (m + 1) e := by
  refine ⟨(Mgd.rot hr him (by omega) (by omega) (fun u v c1 c2 c3 c4 => ?_)).mono hai (Nat.le_refl _), ?_⟩
  · obtain rfl : v = m := by omega
    have := hi' u c1 c2; omega
  · obtain ⟨_, r2⟩ := hr
    have g1 : ∀ t, t < i → e[t]! = d[t]! := fun t ht => by
      rw [r2 _ (by omega)]; congr 1; unfold rotIdx; rw [if_neg (by omega), if_neg (by omega)]
    have g2 : e[i]! = d[m]! := by
      rw [r2 _ (by omega)]; congr 1; unfold rotIdx; rw [if_pos (by omega)]; omega
    have g3 : ∀ t, t < m - i → e[i + 1 + t]! = d[i + t]! := fun t ht => by
      rw [r2 _ (by omega)]; congr 1; unfold rotIdx; rw [if_neg (by omega), if_pos (by omega)]; omega
    have s3 := (hs.sub hai (Nat.le_refl _)).shift (n := m - i) (a' := i + 1) (by omega) g3
    rw [show i + 1 + (m - i) = m + 1 by omega] at s3
    refine Srt.join (m := i) ((hs.sub (Nat.le_refl _) him).congr fun t _ ht => g1 t ht) (Srt.join (m := i + 1) ?_ s3 ?_) ?_
    · intro u v c1 c2 c3
      obtain rfl : u = i := by omega
      obtain rfl : v = u := by omega
      exact Int.le_refl _
    · intro u v c1 c2 c3 c4
      obtain rfl : u = i := by omega
      obtain ⟨p, rfl⟩ : ∃ p, v = u + 1 + p := ⟨v - (u + 1), by omega⟩
      rw [g2, g3 p (by omega)]
      have := hi' (u + p) (by omega) (by omega); omega
    · intro u v c1 c2 c3 c4
      rw [g1 u c2]
      have q := lo u c1 c2
      by_cases c : v = i
      · rw [c, g2]; omega
      · obtain ⟨p, rfl⟩ : ∃ p, v = i + 1 + p := ⟨v - (i + 1), by omega⟩
        rw [g3 p (by omega)]
        exact hs u (i + p) c1 (by omega) (by omega)

theorem sym_fin {a mid b : Nat} {d d1 d2 d3 : Array (Int × Int)} (ha : a ≤ mid) (hb : mid ≤ b) (h1 : Mgd a b d d1) (h2 : Mgd a mid d1 d2) (s2 : Srt a mid d2) (h3 : Mgd mid b d2 d3) (s3 : Srt mid b d3)
    (c : ∀ i j, a ≤ i → i < mid → mid ≤ j → j < b → d1[i]!.1 ≤ d1[j]!.1) : Mgd a b d d3 ∧ Srt a b d3 := by
  refine ⟨(h1.trans (h2.mono (Nat.le_refl _) hb)).trans (h3.mono ha (Nat.le_refl _)), Srt.join (s2.congr fun t _ ht => h3.out t (Or.inl ht)) s3 fun i j c1 c2 c3 c4 => ?_⟩
  rw [h3.out i (Or.inl c2)]
  obtain ⟨u, u1, u2, e1⟩ := h2.src i c1 c2
  obtain ⟨v, v1, v2, e2⟩ := h3.src j c3 c4
  rw [e1, e2, h2.out v (Or.inr v1)]
  exact c u v u1 u2 v1 v2

/-! ### insertion -/
def ltK (x y : Int × Int) : Bool := decide (x.1 < y.1)
theorem swo_ltK : SWO ltK := ⟨fun x => by simp [ltK], fun x y z h1 h2 => by simp [ltK] at *; omega, fun x y z h1 h2 => by simp [ltK] at *; omega⟩
theorem mgd_insInner (a b : Nat) : ∀ (j : Nat) (d : Array (Int × Int)), a ≤ j → j < b → b ≤ d.size → Mgd a b d (insInner ltK a j d)
  | 0, d, _, _, _ => Mgd.refl _ _ _
  | j + 1, d, h1, h2, h3 => by
    by_cases c : a < j + 1 ∧ ltK d[j + 1]! d[j]! = true
    · have e := insInner_go (lt := ltK) a (j + 1) d c.1 c.2
      simp only [Nat.add_sub_cancel] at e
      rw [e]
      have hk : d[j + 1]!.1 < d[j]!.1 := by simpa [ltK] using c.2
      refine Mgd.trans ((Mgd.rot (rot_swp' d j (by omega)) (by omega) (by omega) (by omega) ?_).mono (by omega) (by omega)) (mgd_insInner a b j _ (by omega) (by omega) (by rw [swp_size]; exact h3))
      intro u v c1 c2 c3 c4
      obtain rfl : u = j := by omega
      obtain rfl : v = u + 1 := by omega
      omega
    · rw [insInner_stop (lt := ltK) a (j + 1) d (by
        rcases Nat.lt_or_ge a (j + 1) with q | q
        · right; rw [Bool.eq_false_iff]; exact fun h => c ⟨q, h⟩
        · exact Or.inl q)]
      exact Mgd.refl _ _ _
theorem mgd_insOuter (a b : Nat) : ∀ (n i : Nat) (d : Array (Int × Int)), b - i ≤ n → a < i → b ≤ d.size → Mgd a b d (insOuter ltK a b i d)
  | n, i, d, hn, hi, hb => by
    by_cases h : i < b
    · match n, hn with
      | 0, hn => omega
      | n + 1, hn =>
        rw [insOuter_go (lt := ltK) _ _ _ _ h]
        have q := mgd_insInner a b i d (by omega) h hb
        exact q.trans (mgd_insOuter a b n (i + 1) _ (by omega) (by omega) (by rw [q.size]; exact hb))
    · rw [insOuter_stop (lt := ltK) _ _ _ _ h]; exact Mgd.refl _ _ _
theorem insertion_good (d : Array (Int × Int)) (a b : Nat) (hab : a ≤ b) (hb : b ≤ d.size) : Mgd a b d (insertionSort ltK d a b) ∧ Srt a b (insertionSort ltK d a b) := by
  refine ⟨mgd_insOuter a b _ _ d (Nat.le_refl _) (by omega) hb, ?_⟩
  have := (insertionSort_holds swo_ltK d a b hab hb).2
  intro i j h1 h2 h3
  rcases Nat.lt_or_ge i j with q | q
  · have := this i j h1 q h3
    simp [ltK] at this; exact this
  · obtain rfl : i = j := by omega
    exact Int.le_refl _
end Go.Proofs.YtmkjalpgeljnkaaDoor

/-
  Items of package api in memory: two cells each; the world in which a row of them lies.
-/
namespace Go.Proofs.YtmkjalpgeljnkaaDoor
open Go.RowKit Go.Sort Go.Proofs

/-- An item's two cells. -/
def encI (x : Int × Int) : List Value := [.int .i64 x.1, .int .i64 x.2]
theorem encI_len (x : Int × Int) : (encI x).length = 2 := rfl
theorem encI_one (x : Int × Int) : ∀ v ∈ encI x, v.oneCell' = true := by
  intro v hv; simp [encI] at hv; rcases hv with rfl | rfl <;> rfl

/-- W is the world w0, some draws on, with blocks laid behind it, and the row of N items at blk, off holds d. -/
structure At (w0 : World) (blk off N : Nat) (d : Array (Int × Int)) (W : World) : Prop where
  hH : ∃ d0 : Array (Int × Int), HoldsK encI 2 w0 blk off d0 ∧ d0.size = N
  hblk : blk < w0.heap.size
  size : d.size = N
  sw : SWK encI 2 w0 blk off d W

section
variable {w0 W : World} {blk off N : Nat} {d : Array (Int × Int)}
theorem At.start (h : HoldsK encI 2 w0 blk off d) (hb : blk < w0.heap.size) : At w0 blk off d.size d w0 := ⟨⟨d, h, rfl⟩, hb, rfl, SWK.start h⟩
theorem At.holds (h : At w0 blk off N d W) : HoldsK encI 2 W blk off d := by
  obtain ⟨d0, h0, e⟩ := h.hH
  exact h.sw.holds h.hblk h0 (h.size.trans e.symm)
theorem At.cell (h : At w0 blk off N d W) {i : Nat} (hi : i < N) :
    W.cell? ⟨blk, off + i * 2, none⟩ = some (.int .i64 d[i]!.1) ∧ W.cell? ⟨blk, off + i * 2 + 1, none⟩ = some (.int .i64 d[i]!.2) ∧ W.frozen? ⟨blk, off + i * 2, none⟩ = false ∧ W.frozen? ⟨blk, off + i * 2 + 1, none⟩ = false := by
  obtain ⟨c0, f0⟩ := h.holds.cell (i := i) (c := 0) (by rw [h.size]; exact hi) (by omega)
  obtain ⟨c1, f1⟩ := h.holds.cell (i := i) (c := 1) (by rw [h.size]; exact hi) (by omega)
  exact ⟨by simpa [encI] using c0, by simpa [encI] using c1, by simpa using f0, by simpa using f1⟩
theorem At.lt (h : At w0 blk off N d W) : blk < W.heap.size := h.sw.lt h.hblk
theorem At.grown (h : At w0 blk off N d W) (n : Nat) (os : Array Obj) : At w0 blk off N d (grow (W.drewN n) os) := ⟨h.hH, h.hblk, h.size, h.sw.grown n os⟩
theorem At.drewN (h : At w0 blk off N d W) (n : Nat) : At w0 blk off N d (W.drewN n) := ⟨h.hH, h.hblk, h.size, h.sw.drewN n⟩
theorem At.drew (h : At w0 blk off N d W) : At w0 blk off N d W.drew := ⟨h.hH, h.hblk, h.size, h.sw.drew⟩
theorem At.alloc (h : At w0 blk off N d W) (o : Obj) : At w0 blk off N d (W.alloc o) := ⟨h.hH, h.hblk, h.size, h.sw.alloc o⟩
theorem At.cellG (h : At w0 blk off N d W) {i : Nat} (hi : i < N) {x : Int × Int} (hx : d[i]! = x) (n : Nat) (os : Array Obj) :
    (grow (W.drewN n) os).cell? ⟨blk, off + i * 2, none⟩ = some (.int .i64 x.1) := by rw [← hx]; exact ((h.grown n os).cell hi).1
theorem At.cellG1 (h : At w0 blk off N d W) {i : Nat} (hi : i < N) {x : Int × Int} (hx : d[i]! = x) (n : Nat) (os : Array Obj) :
    (grow (W.drewN n) os).cell? ⟨blk, off + i * 2 + 1, none⟩ = some (.int .i64 x.2) := by rw [← hx]; exact ((h.grown n os).cell hi).2.1
/-- An exchange of two items, behind the region's draw. -/
theorem At.swap (h : At w0 blk off N d W) {i j : Nat} (hi : i < N) (hj : j < N) {x y : Int × Int} (hx : d[i]! = x) (hy : d[j]! = y) :
    At w0 blk off N (swp d i j) (((((W.setCell ⟨blk, off + i * 2, none⟩ (.int .i64 y.1)).setCell ⟨blk, off + i * 2 + 1, none⟩ (.int .i64 y.2)).setCell
      ⟨blk, off + j * 2, none⟩ (.int .i64 x.1)).setCell ⟨blk, off + j * 2 + 1, none⟩ (.int .i64 x.2)).drew) := by
  have h2 := (h.sw.swap encI_len h.hblk i j (by rw [h.size]; exact hi) (by rw [h.size]; exact hj)).drew
  rw [hx, hy] at h2
  exact ⟨h.hH, h.hblk, by rw [swp_size, h.size], h2⟩
end
end Go.Proofs.YtmkjalpgeljnkaaDoor

/-
  Lists of items that are read: order.outside, slices.IndexFunc, slices.ContainsFunc and order.Check.
-/
namespace Go.Proofs.YtmkjalpgeljnkaaDoor
open Go.RowKit Go.Sort Go.Proofs

/-- The items xs lie at blk, off. -/
def RdAt (w : World) (blk off : Nat) (xs : Array (Int × Int)) : Prop :=
  blk < w.heap.size ∧ ∀ i, i < xs.size → w.cell? ⟨blk, off + i * 2, none⟩ = some (.int .i64 xs[i]!.1) ∧ w.cell? ⟨blk, off + i * 2 + 1, none⟩ = some (.int .i64 xs[i]!.2)
theorem RdAt.below {w w' : World} {blk off B : Nat} {xs : Array (Int × Int)} (h : RdAt w blk off xs) (hb : Below B w w') (hB : blk < B) : RdAt w' blk off xs :=
  ⟨Nat.lt_of_lt_of_le h.1 hb.size, fun i hi => ⟨(hb.cell (p := ⟨blk, off + i * 2, none⟩) hB).trans (h.2 i hi).1, (hb.cell (p := ⟨blk, off + i * 2 + 1, none⟩) hB).trans (h.2 i hi).2⟩⟩
theorem below_size {w w' : World} (h : Below w.heap.size w w') : w.heap.size ≤ w'.heap.size := h.size
theorem At.rd {w0 W : World} {blk off N : Nat} {d : Array (Int × Int)} (h : At w0 blk off N d W) : RdAt W blk off d :=
  ⟨h.lt, fun i hi => by have := h.cell (i := i) (by rw [← h.size]; exact hi); exact ⟨this.1, this.2.1⟩⟩

/-- A slice value that holds the items xs. -/
def Sl (w : World) (v : Value) (xs : Array (Int × Int)) : Prop :=
  ∃ p cap, v = .slice p xs.size cap ∧ xs.size ≤ cap ∧ (xs.size = 0 ∨ ∃ blk off, p = some ⟨blk, off, none⟩ ∧ RdAt w blk off xs)
theorem Sl.below {w w' : World} {v : Value} {xs : Array (Int × Int)} (h : Sl w v xs) (hb : Below w.heap.size w w') : Sl w' v xs := by
  obtain ⟨p, cap, rfl, hc, h | ⟨blk, off, rfl, hr⟩⟩ := h
  · exact ⟨p, cap, rfl, hc, Or.inl h⟩
  · exact ⟨_, cap, rfl, hc, Or.inr ⟨blk, off, rfl, hr.below hb hr.1⟩⟩
theorem Sl.of_rd {w : World} {blk off : Nat} {xs : Array (Int × Int)} (h : RdAt w blk off xs) {cap : Nat} (hc : xs.size ≤ cap) : Sl w (.slice (some ⟨blk, off, none⟩) xs.size cap) xs := ⟨_, cap, rfl, hc, Or.inr ⟨blk, off, rfl, h⟩⟩
theorem Sl.nil (w : World) : Sl w (.slice none 0 0) #[] := ⟨none, 0, rfl, Nat.le_refl _, Or.inl rfl⟩
theorem Sl.nil' (w : World) {xs : Array (Int × Int)} (h : xs.size = 0) : Sl w (.slice none 0 0) xs := ⟨none, 0, by rw [h], by omega, Or.inl h⟩

/-- Is a number of an item none that may be? -/
def outB (x : Int × Int) : Bool := decide (x.1 < -1000000 ∨ 1000000 < x.1 ∨ x.2 < 0 ∨ 1000000 < x.2)
def anyOut (xs : Array (Int × Int)) : Bool := xs.toList.any outB

set_option maxHeartbeats 1000000 in
theorem outside_any (x y : Int) (w : World) :
    Calls Tryd.prog 46 #[.agg #[.int .i64 x, .int .i64 y]] w fun e w' => e = .returned (.bool (outB (x, y))) ∧ Below w.heap.size w w' := by
  by_cases h1 : x < -1000000
  · have e : outB (x, y) = true := decide_eq_true (Or.inl h1)
    rw [e]; clear e
    go_enter Tryd.func46, Tryd.ntmps46
    go_wp2
    go_ret
    exact ⟨rfl, (Below.refl _ _).alloc (Nat.le_refl _) _⟩
  by_cases h2 : 1000000 < x
  · have e : outB (x, y) = true := decide_eq_true (Or.inr (Or.inl h2))
    rw [e]; clear e
    go_enter Tryd.func46, Tryd.ntmps46
    go_wp2
    go_ret
    exact ⟨rfl, (Below.refl _ _).alloc (Nat.le_refl _) _⟩
  by_cases h3 : y < 0
  · have e : outB (x, y) = true := decide_eq_true (Or.inr (Or.inr (Or.inl h3)))
    rw [e]; clear e
    go_enter Tryd.func46, Tryd.ntmps46
    go_wp2
    go_ret
    exact ⟨rfl, (Below.refl _ _).alloc (Nat.le_refl _) _⟩
  by_cases h4 : 1000000 < y
  · have e : outB (x, y) = true := decide_eq_true (Or.inr (Or.inr (Or.inr h4)))
    rw [e]; clear e
    go_enter Tryd.func46, Tryd.ntmps46
    go_wp2
    go_ret
    exact ⟨rfl, (Below.refl _ _).alloc (Nat.le_refl _) _⟩
  · have e : outB (x, y) = false := decide_eq_false (by omega)
    rw [e]; clear e
    go_enter Tryd.func46, Tryd.ntmps46
    go_wp2
    go_ret
    exact ⟨rfl, (Below.refl _ _).alloc (Nat.le_refl _) _⟩

theorem anyOut_true {xs : Array (Int × Int)} {k : Nat} (hk : k < xs.size) (h : outB xs[k]! = true) : anyOut xs = true := by
  unfold anyOut
  rw [List.any_eq_true]
  exact ⟨xs[k]!, by rw [getElem!_pos xs k hk]; simp, h⟩
theorem anyOut_false {xs : Array (Int × Int)} (h : ∀ i, i < xs.size → outB xs[i]! = false) : anyOut xs = false := by
  unfold anyOut
  rw [List.any_eq_false]
  intro x hx
  obtain ⟨i, hi, rfl⟩ := List.getElem_of_mem hx
  rw [getD_toList]
  simp [h i (by simpa using hi)]

set_option maxHeartbeats 1000000 in
theorem indexFunc_none (p : Option Addr) (cap : Nat) (w : World) :
    Calls Tryd.prog 54 #[.slice p 0 cap, .func (.func 46) #[] #[]] w fun e w' => e = .returned (.int .i64 (-1)) ∧ w' = w := by
  go_enter Tryd.func54, Tryd.ntmps54
  go_wp2
  go_loop [8] (fun i => i = .int .i64 0) (fun _ => 0)
  case atStart => rfl
  case round =>
    subst hrel
    go_wp2
    go_ret
    exact ⟨rfl, rfl⟩

set_option maxHeartbeats 2000000 in
theorem indexFunc_some (blk off cap n : Nat) (xs : Array (Int × Int)) (w : World) (hx : RdAt w blk off xs) (hn : Hid (xs.size = n)) (hsz : n ≤ 60) :
    Calls Tryd.prog 54 #[.slice (some ⟨blk, off, none⟩) n cap, .func (.func 46) #[] #[]] w fun e w' =>
      ∃ r : Int, e = .returned (.int .i64 r) ∧ (decide (0 ≤ r) = anyOut xs) ∧ Below w.heap.size w w' := by
  have HX : Aside _ := hx
  clear hx
  go_enter Tryd.func54, Tryd.ntmps54
  go_wp2
  go_loopg [8] n (fun g vi wr => ∃ i : Nat, vi = .int .i64 i ∧ i + g = n ∧ Below w.heap.size w wr ∧ Aside (∀ j, j < i → outB xs[j]! = false))
  case atStart => exact ⟨0, rfl, by omega, Below.refl _ _, (show Aside _ from fun j hj => by omega)⟩
  case round =>
    obtain ⟨i, rfl, hg, hb, HO⟩ := hrel
    by_cases hlt : i < n
    · have hlz : (i : Int) < (n : Int) := by omega
      obtain ⟨x, y, hxy⟩ : ∃ x y, xs[i]! = (x, y) := ⟨_, _, rfl⟩
      have hr := (RdAt.below HX.out hb HX.out.1).2 i (by rw [hn.out]; exact hlt)
      rw [hxy] at hr
      obtain ⟨c0, c1⟩ := hr
      have HXY : Hid _ := hxy
      clear hxy
      have hcon := outside_any x y wr
      generalize hr' : outB (x, y) = r at hcon
      have HR : Hid _ := hr'
      clear hr'
      cases r
      · go_wp2_with (go_at_call 46; refine hcon.mono ?_; rintro e w' ⟨rfl, hb2⟩)
        go_roundg (n - (i + 1))
        case measure => omega
        case rel =>
          refine ⟨i + 1, by go_num, by omega, hb.trans (hb2.mono hb.size), (show Aside _ from fun j hj => ?_)⟩
          rcases Nat.lt_or_ge j i with q | q
          · exact HO.out j q
          · obtain rfl : j = i := by omega
            rw [HXY.out]; exact HR.out
      · go_wp2_with (go_at_call 46; refine hcon.mono ?_; rintro e w' ⟨rfl, hb2⟩)
        go_ret
        refine ⟨_, rfl, ?_, hb.trans (hb2.mono hb.size)⟩
        rw [anyOut_true (k := i) (by rw [hn.out]; exact hlt) (by rw [HXY.out]; exact HR.out)]
        exact decide_eq_true (by omega)
    · have hlz : ¬ (i : Int) < (n : Int) := by omega
      go_wp2
      go_ret
      refine ⟨_, rfl, ?_, hb⟩
      rw [anyOut_false fun j hj => HO.out j (by have := hn.out; omega)]
      decide

theorem containsFunc_any (v : Value) (xs : Array (Int × Int)) (w : World) (h : Sl w v xs) (hsz : xs.size ≤ 60) :
    Calls Tryd.prog 45 #[v, .func (.func 46) #[] #[]] w fun e w' => e = .returned (.bool (anyOut xs)) ∧ Below w.heap.size w w' := by
  obtain ⟨p, cap, rfl, hcap, h | ⟨blk, off, rfl, hr⟩⟩ := h
  · have e : anyOut xs = false := anyOut_false fun i hi => by omega
    rw [h] at hcap ⊢
    rw [e]
    clear e
    go_enter Tryd.func45, Tryd.ntmps45
    go_wp2_with (go_at_call 54; refine (indexFunc_none p cap _).mono ?_; rintro e w' ⟨rfl, rfl⟩)
    go_ret
    exact ⟨rfl, Below.refl _ _⟩
  · have hcon := indexFunc_some blk off cap xs.size xs w hr rfl hsz
    generalize xs.size = n at hcon hcap
    generalize anyOut xs = r at hcon ⊢
    clear hr
    go_enter Tryd.func45, Tryd.ntmps45
    go_wp2_with (go_at_call 54; refine hcon.mono ?_; rintro e w' ⟨q, rfl, hq, hb⟩)
    go_ret
    exact ⟨rfl, hb⟩

/-- What is wrong with items: 4 there are too many, 1 a number is none that may be, 0 nothing. -/
def wrong (xs : Array (Int × Int)) : Nat := if 60 < xs.size then 4 else if anyOut xs then 1 else 0
/-- .. as an error. -/
def errV (k : Nat) : Value := if k = 0 then .nilIface else .iface 56 (.int .i64 k)

theorem check_any (v : Value) (xs : Array (Int × Int)) (w : World) (h : Sl w v xs) (hbig : xs.size ≤ 9223372036854775807) :
    Calls Tryd.prog 31 #[v] w fun e w' => e = .returned (errV (wrong xs)) ∧ Below w.heap.size w w' := by
  by_cases hs : 60 < xs.size
  · have e : errV (wrong xs) = .iface 56 (.int .i64 4) := by unfold wrong; rw [if_pos hs]; rfl
    rw [e]; clear e
    obtain ⟨p, cap, rfl, _⟩ := h
    have hz : (60 : Int) < (xs.size : Int) := by omega
    go_enter Tryd.func31, Tryd.ntmps31
    go_wp2
    go_ret
    exact ⟨rfl, Below.refl _ _⟩
  · have hcon := containsFunc_any v xs w h (by omega)
    have e : errV (wrong xs) = if anyOut xs then .iface 56 (.int .i64 1) else .nilIface := by
      unfold wrong; rw [if_neg hs]; cases anyOut xs <;> rfl
    rw [e]; clear e
    generalize anyOut xs = r at hcon ⊢
    obtain ⟨p, cap, rfl, _⟩ := h
    have hz : ¬ (60 : Int) < (xs.size : Int) := by omega
    cases r
    · go_enter Tryd.func31, Tryd.ntmps31
      go_wp2_with (go_at_call 45; refine hcon.mono ?_; rintro e w' ⟨rfl, hb⟩)
      go_ret
      exact ⟨rfl, hb⟩
    · go_enter Tryd.func31, Tryd.ntmps31
      go_wp2_with (go_at_call 45; refine hcon.mono ?_; rintro e w' ⟨rfl, hb⟩)
      go_ret
      exact ⟨rfl, hb⟩
end Go.Proofs.YtmkjalpgeljnkaaDoor

/-
  A list of items that came in, read: what the walks are told of it.
-/
namespace Go.Proofs.YtmkjalpgeljnkaaDoor
open Go.RowKit Go.Sort Go.Proofs Go.Deep Go.ChangeShapes Go.WideShapes

theorem knob : ownKnob Tryd.prog.godebug = none := by kernel_rfl
theorem laidOut : laidOutB Tryd.prog = true := by kernel_rfl
theorem cells_item : Tryd.prog.cellsOf 24 = 2 := by kernel_rfl
theorem cells_int : Tryd.prog.cellsOf 3 = 1 := by kernel_rfl

theorem open_items {H : Type} {enc : TypeId × Value → H} {W : World} {fuel : Nat} {p : Option Addr} {len cap : Nat} {x : DataW H × List MemPlace}
    (h : DataW.trod enc Tryd.prog W 0 (fun _ => true) true fuel 35 [.slice p len cap] = some x) : ∃ xs : Array (Int × Int), Sl W (.slice p len cap) xs ∧ xs.size = len ∧ xs.size ≤ maxLen := by
  rcases open_slice_pairs Tryd.underlying35 Tryd.underlying24 cells_item rfl rfl cells_int cells_int h with ⟨hcs, _⟩ | ⟨a, l, c, m, n, V0, V1, D0, D1, P0, P1, hcs, _, hl, hm, hmeq, _, hall⟩
  · simp only [List.cons.injEq, and_true, Value.slice.injEq] at hcs
    obtain ⟨rfl, rfl, rfl⟩ := hcs
    exact ⟨#[], Sl.nil W, rfl, Nat.zero_le _⟩
  · simp only [List.cons.injEq, and_true, Value.slice.injEq] at hcs
    obtain ⟨rfl, rfl, rfl⟩ := hcs
    simp only [if_true] at hmeq
    subst hmeq
    have key : ∀ i, ∃ q : Int × Int, i < m → V0 i = .int .i64 q.1 ∧ V1 i = .int .i64 q.2 := fun i => by
      by_cases hi : i < m
      · obtain ⟨_, _, t0, t1⟩ := hall i hi
        obtain ⟨k0, e0, _⟩ := DataW.trod_int Tryd.underlying3 t0
        obtain ⟨k1, e1, _⟩ := DataW.trod_int Tryd.underlying3 t1
        simp only [List.cons.injEq, and_true] at e0 e1
        exact ⟨(k0, k1), fun _ => ⟨e0, e1⟩⟩
      · exact ⟨(0, 0), fun h => absurd h hi⟩
    obtain ⟨q, hq⟩ := Classical.axiomOfChoice key
    have hsz : ((Array.range len).map q).size = len := by simp
    have hget : ∀ i, i < len → ((Array.range len).map q)[i]! = q i := fun i hi => by rw [getElem!_pos _ i (by simpa using hi)]; simp
    refine ⟨(Array.range len).map q, ?_, hsz, by rw [hsz]; omega⟩
    by_cases h0 : len = 0
    · exact ⟨some a, m, by rw [hsz], by rw [hsz]; exact hl, Or.inl (by rw [hsz]; exact h0)⟩
    · obtain ⟨b, off, spot⟩ := a
      have hc := (hall 0 (by omega)).1
      have hspot : spot = none := by simpa [Addr.add] using World.cell?_spot hc
      subst hspot
      have hadd : ∀ j, (⟨b, off, none⟩ : Addr).add j = ⟨b, off + j, none⟩ := fun j => by unfold Addr.add; split <;> simp_all
      have hlt : b < W.heap.size := by
        rw [hadd] at hc
        by_cases hb : b < W.heap.size
        · exact hb
        · exfalso
          have : W.heap[b]? = none := Array.getElem?_eq_none (by omega)
          simp [World.cell?, this] at hc
      refine ⟨_, m, by rw [hsz], by rw [hsz]; exact hl, Or.inr ⟨b, off, rfl, hlt, fun i hi => ?_⟩⟩
      rw [hsz] at hi
      obtain ⟨t0, t1, _, _⟩ := hall i (by omega)
      rw [hadd] at t0 t1
      rw [← Nat.add_assoc] at t1
      rw [hget i hi, t0, t1, (hq i (by omega)).1, (hq i (by omega)).2]
      exact ⟨rfl, rfl⟩
end Go.Proofs.YtmkjalpgeljnkaaDoor

/-
  Rows of elements of any make whose cells are plain values: read, owned, written; append at them.
-/
namespace Go.Proofs.YtmkjalpgeljnkaaDoor
open Go.RowKit Go.Proofs

/-- Elements of a slice in memory: the cells of each. -/
structure El (P : Program) (α : Type) where
  enc : α → List Value
  K : Nat
  T : TypeId
  S : TypeId
  zero : Value
  bytes : Nat
  pos : 0 < K
  small : bytes ≤ 1000
  len : ∀ x, (enc x).length = K
  one : ∀ x, ∀ v ∈ enc x, v.oneCell' = true
  zlen : zero.cells.size = K
  info : (P.info? T).map (fun i => (i.zero, i.size, i.bytes)) = some (some zero, K, bytes)
  under : P.underlying S = some (.slice T)

theorem size_cell (w : World) (p : Addr) (v : Value) : (w.setCell p v).heap.size = w.heap.size := by simp [World.setCell]
theorem size_cells (g : Nat) : ∀ (vs : List Value) (o : Nat) (w : World), (w.setCells g o vs).heap.size = w.heap.size
  | [], _, _ => rfl
  | v :: r, o, w => by rw [World.setCells, size_cells g r, size_cell]

section
variable {P : Program} {α : Type} (E : El P α)

def El.flat (ys : List α) : List Value := ys.flatMap E.enc
theorem El.flat_nil : E.flat [] = [] := rfl
theorem El.flat_cons (y : α) (r : List α) : E.flat (y :: r) = E.enc y ++ E.flat r := by simp [El.flat]
theorem El.flat_append (a b : List α) : E.flat (a ++ b) = E.flat a ++ E.flat b := by simp [El.flat]
theorem El.flat_one (y : α) : E.flat [y] = E.enc y := by simp [El.flat]
theorem El.flat_len (ys : List α) : (E.flat ys).length = ys.length * E.K := by
  induction ys with
  | nil => simp [El.flat]
  | cons y r ih => rw [E.flat_cons, List.length_append, ih, E.len, List.length_cons, Nat.add_mul]; omega
theorem El.flat_cell (ys : List α) : ∀ v ∈ E.flat ys, v.oneCell' = true := by
  intro v hv
  simp only [El.flat, List.mem_flatMap] at hv
  obtain ⟨x, _, h⟩ := hv
  exact E.one x v h
theorem El.flat_get (ys : List α) : ∀ (i : Nat) (h : i < ys.length) (c : Nat), c < E.K → (E.flat ys)[i * E.K + c]? = (E.enc ys[i])[c]? := by
  induction ys with
  | nil => intro i h; exact absurd h (Nat.not_lt_zero _)
  | cons y r ih =>
    intro i h c hc
    rw [E.flat_cons]
    match i, h with
    | 0, _ =>
      rw [Nat.zero_mul, Nat.zero_add, List.getElem?_append_left (by rw [E.len]; exact hc)]
      rfl
    | i + 1, h =>
      rw [List.getElem?_append_right (by rw [E.len, Nat.add_mul]; omega), E.len, show (i + 1) * E.K + c - E.K = i * E.K + c by rw [Nat.add_mul]; omega]
      exact ih i (by simpa using h) c hc
theorem El.flat_drop (ys : List α) (a : Nat) : E.flat (ys.drop a) = (E.flat ys).drop (a * E.K) := by
  induction a generalizing ys with
  | zero => simp
  | succ a ih =>
    cases ys with
    | nil => simp [El.flat]
    | cons y r =>
      rw [List.drop_succ_cons, ih, E.flat_cons, Nat.add_mul, Nat.one_mul, Nat.add_comm, ← List.drop_drop]
      congr 1
      rw [List.drop_append_of_le_length (by rw [E.len]; exact Nat.le_refl _), ← E.len y, List.drop_length]
      rfl

/-- The elements xs lie at blk, off. -/
def RdE (w : World) (blk off : Nat) (xs : List α) : Prop :=
  blk < w.heap.size ∧ ∀ j v, (E.flat xs)[j]? = some v → w.cell? ⟨blk, off + j, none⟩ = some v
variable {E}
theorem RdE.block {w w' : World} {blk off : Nat} {xs : List α} (h : RdE E w blk off xs) (hs : w.heap.size ≤ w'.heap.size) (hb : w'.heap[blk]? = w.heap[blk]?) : RdE E w' blk off xs :=
  ⟨Nat.lt_of_lt_of_le h.1 hs, fun j v hv => (World.cell?_of_block (a := ⟨blk, off + j, none⟩) hb).trans (h.2 j v hv)⟩
theorem RdE.below {w w' : World} {blk off B : Nat} {xs : List α} (h : RdE E w blk off xs) (hb : Below B w w') (hB : blk < B) : RdE E w' blk off xs := h.block hb.size (hb.block blk hB)
theorem RdE.kept {w w' : World} {blk off : Nat} {row : Option Nat} {xs : List α} (h : RdE E w blk off xs) (hg : w.grownBy w' row) (hne : some blk ≠ row) : RdE E w' blk off xs := h.block hg.size (hg.block blk h.1 hne)
theorem RdE.cell {w : World} {blk off : Nat} {xs : List α} (h : RdE E w blk off xs) {i : Nat} {x : α} (hx : xs[i]? = some x) {c : Nat} {v : Value} (hv : (E.enc x)[c]? = some v) : w.cell? ⟨blk, off + i * E.K + c, none⟩ = some v := by
  obtain ⟨hi, e⟩ := List.getElem?_eq_some_iff.1 hx
  have hc : c < E.K := by have := (List.getElem?_eq_some_iff.1 hv).1; rw [E.len] at this; exact this
  have := h.2 (i * E.K + c) v (by rw [E.flat_get xs i hi c hc, e]; exact hv)
  rw [Nat.add_assoc]; exact this
/-- A stretch of it. -/
theorem RdE.part {w : World} {blk off : Nat} {xs ys zs : List α} (h : RdE E w blk off xs) (a : Nat) (e : xs.drop a = ys ++ zs) : RdE E w blk (off + a * E.K) ys := by
  refine ⟨h.1, fun j v hv => ?_⟩
  have h1 : (E.flat (xs.drop a))[j]? = some v := by
    rw [e, E.flat_append, List.getElem?_append_left (List.getElem?_eq_some_iff.1 hv).1]; exact hv
  rw [E.flat_drop, List.getElem?_drop] at h1
  have := h.2 _ v h1
  rw [Nat.add_assoc]; exact this

variable (E)
/-- A slice value that holds the elements xs. -/
def SlE (w : World) (v : Value) (xs : List α) : Prop :=
  ∃ p cap, v = .slice p xs.length cap ∧ xs.length ≤ cap ∧ (xs = [] ∨ ∃ blk off, p = some ⟨blk, off, none⟩ ∧ RdE E w blk off xs)
variable {E}
theorem SlE.below {w w' : World} {v : Value} {xs : List α} (h : SlE E w v xs) (hb : Below w.heap.size w w') : SlE E w' v xs := by
  obtain ⟨p, cap, rfl, hc, h | ⟨blk, off, rfl, hr⟩⟩ := h
  · exact ⟨p, cap, rfl, hc, Or.inl h⟩
  · exact ⟨_, cap, rfl, hc, Or.inr ⟨blk, off, rfl, hr.below hb hr.1⟩⟩
theorem SlE.of_rd {w : World} {blk off n cap : Nat} {xs : List α} (h : RdE E w blk off xs) (hn : xs.length = n) (hc : n ≤ cap) : SlE E w (.slice (some ⟨blk, off, none⟩) n cap) xs :=
  ⟨_, cap, by rw [hn], by rw [hn]; exact hc, Or.inr ⟨blk, off, rfl, h⟩⟩
theorem SlE.empty (w : World) (p : Option Addr) (cap : Nat) : SlE E w (.slice p 0 cap) [] := ⟨p, cap, rfl, Nat.zero_le _, Or.inl rfl⟩
theorem SlE.some {w : World} {p : Option Addr} {n cap : Nat} {xs : List α} (h : SlE E w (.slice p n cap) xs) (hn : 0 < n) : ∃ blk off, p = Option.some ⟨blk, off, none⟩ ∧ n ≤ cap ∧ xs.length = n ∧ RdE E w blk off xs := by
  obtain ⟨p', c', e, hc, h0 | ⟨blk, off, rfl, hr⟩⟩ := h
  · simp only [Value.slice.injEq] at e; rw [h0] at e; simp at e; omega
  · simp only [Value.slice.injEq] at e
    obtain ⟨rfl, rfl, rfl⟩ := e
    exact ⟨blk, off, rfl, hc, rfl, hr⟩

variable (E)
/-- The slice value v is a list of one's own, from block base on, that holds the elements ys. -/
def OwnE (w : World) (base : Nat) (v : Value) (ys : List α) : Prop := w.ownsRow base E.T E.K v ys.length (E.flat ys)
theorem OwnE.nil (w : World) (base : Nat) : OwnE E w base (.slice none 0 0) [] := World.ownsRow_nil w base E.T E.K
variable {E}
theorem OwnE.alloc {w : World} {base : Nat} {v : Value} {ys : List α} (h : OwnE E w base v ys) (o : Obj) : OwnE E (w.alloc o) base v ys := World.ownsRow.alloc h o
theorem OwnE.drewN {w : World} {base : Nat} {v : Value} {ys : List α} (h : OwnE E w base v ys) (n : Nat) : OwnE E (w.drewN n) base v ys := h
theorem OwnE.below {w w' : World} {base : Nat} {v : Value} {ys : List α} (h : OwnE E w base v ys) (hb : Below w.heap.size w w') : OwnE E w' base v ys :=
  World.ownsRow.kept (row := none) h ⟨hb.os, hb.tape, hb.output, hb.size, fun k hk _ => hb.block k hk⟩ (by cases hv : v.ownBlock <;> simp)
theorem OwnE.form {w : World} {base : Nat} {v : Value} {ys : List α} (h : OwnE E w base v ys) : ∃ p c, v = .slice p ys.length c := by
  obtain ⟨_, ⟨rfl, h0⟩ | ⟨g, cap, cur, rfl, _⟩⟩ := h
  · exact ⟨none, 0, by rw [h0]⟩
  · exact ⟨_, _, rfl⟩
theorem OwnE.weak {w : World} {base base' : Nat} {v : Value} {ys : List α} (h : OwnE E w base v ys) (hb : base' ≤ base) : OwnE E w base' v ys := by
  obtain ⟨h1, h2 | ⟨g, cap, cur, e, hg, r⟩⟩ := h
  · exact ⟨h1, Or.inl h2⟩
  · exact ⟨h1, Or.inr ⟨g, cap, cur, e, by omega, r⟩⟩
/-- .. that holds something: where it lies; it may be written. -/
theorem OwnE.some {w : World} {base : Nat} {v : Value} {ys : List α} {n : Nat} (h : OwnE E w base v ys) (hl : ys.length = n) (hn : 0 < n) :
    ∃ g cp, v = .slice (Option.some ⟨g, 0, none⟩) n cp ∧ base ≤ g ∧ n ≤ cp ∧ RdE E w g 0 ys ∧ ∀ j, w.frozen? ⟨g, j, none⟩ = false := by
  subst hl
  obtain ⟨_, ⟨_, h0⟩ | ⟨g, cp, cur, rfl, hb, hg, hc, _⟩⟩ := id h
  · omega
  · refine ⟨g, cp, rfl, hb, hc, ⟨(Array.getElem?_eq_some_iff.1 hg).1, fun j u hu => ?_⟩, fun j => by simp [World.frozen?, hg]⟩
    have hj := (List.getElem?_eq_some_iff.1 hu).1
    rw [E.flat_len] at hj
    rw [Nat.zero_add]
    exact (World.ownsRow.cellAt h j hj).trans hu
theorem OwnE.sl {w : World} {base : Nat} {v : Value} {ys : List α} (h : OwnE E w base v ys) : SlE E w v ys := by
  rcases Nat.eq_zero_or_pos ys.length with h0 | h0
  · obtain ⟨p, c, rfl⟩ := h.form
    have e := List.eq_nil_of_length_eq_zero h0
    subst e
    exact SlE.empty _ _ _
  · obtain ⟨g, cp, rfl, _, hc, hr, _⟩ := h.some rfl h0
    exact SlE.of_rd hr rfl hc
theorem below_ownE {w w' : World} {base B : Nat} {v : Value} {ys : List α} (hown : OwnE E w base v ys) (hg : w.grownBy w' v.ownBlock) (hB : B ≤ base) (hb : base ≤ w.heap.size) : Below B w w' :=
  (Below.refl B w).grown hg (by omega) fun k e => by have := (World.ownsRow.lt hown k e).1; omega

theorem El.infoE (E : El P α) : ∃ i, P.info? E.T = Option.some i ∧ i.zero = Option.some E.zero ∧ i.size = E.K ∧ i.bytes = E.bytes := by
  have h := E.info
  cases e : P.info? E.T with
  | none => rw [e] at h; simp at h
  | some i =>
    rw [e] at h
    simp only [Option.map_some, Option.some.injEq, Prod.mk.injEq] at h
    exact ⟨i, rfl, h.1, h.2.1, h.2.2⟩
/-- 'append(dst, src...)': a stretch of elements behind an address. -/
theorem run_appendE (w : World) (ty : TypeId) (base : Nat) (v : Value) (ys zs : List α) (ad : Addr) (m c : Nat) (hm : zs.length = m) (hown : OwnE E w base v ys) (hnews : ∀ j u, (E.flat zs)[j]? = Option.some u → w.cell? (ad.add j) = Option.some u)
    (hsz : ys.length + m ≤ 1000000) (hbase : base ≤ w.heap.size) :
    ∃ v' w', (Builtin.append_ #[E.S, E.S] ty #[v, .slice (Option.some ad) m c]).run P w = .ok v' w' ∧ OwnE E w' base v' (ys ++ zs) ∧ w.grownBy w' v.ownBlock ∧ (m ≠ 0 → (v'.ownBlock = v.ownBlock ∨ v'.ownBlock = Option.some w.heap.size)) := by
  subst hm
  obtain ⟨i0, hi, hz0, hz1, hz2⟩ := E.infoE
  have hby : (ys.length + zs.length) * E.bytes ≤ 140737488355328 := by
    have h1 := E.small
    have h2 : (ys.length + zs.length) * E.bytes ≤ 1000000 * 1000 := Nat.mul_le_mul hsz h1
    omega
  obtain ⟨v', w', hr, ho, hg, _⟩ := run_append_own (P := P) w base E.S ty E.T i0 E.zero E.K E.bytes E.under hi hz0 hz1 hz2 E.zlen E.pos
    v ys.length (E.flat ys) hown ad zs.length c (E.flat zs) (E.flat_len zs) hnews (E.flat_cell zs) (by unfold maxLen; omega) hby hbase
  refine ⟨v', w', hr, by unfold OwnE; rw [E.flat_append, List.length_append]; exact ho, hg, fun hm0 => ?_⟩
  obtain ⟨_, ⟨rfl, h0⟩ | ⟨g, cap, cur, rfl, hb, hgg, hn, hcm, hcs, ht⟩⟩ := id hown
  · right
    have e0 : ys = [] := List.eq_nil_of_length_eq_zero h0
    subst e0
    have hr2 := run_append_nil (P := P) w E.S ty E.T i0 _ E.under hi hz0 ad zs.length c (E.flat zs) (by rw [hz1]; exact E.flat_len zs) hnews (by omega) (by omega) (by rw [hz2]; have : zs.length * E.bytes ≤ 1000000 * 1000 := Nat.mul_le_mul (by simpa using hsz) E.small; omega)
    rw [hr2] at hr
    cases hr
    rfl
  · by_cases hroom : ys.length + zs.length ≤ cap
    · left
      have hr2 := run_append_room (P := P) w E.S ty E.T i0 E.under hi g ys.length cap cur hgg ad zs.length c (E.flat zs) (by rw [hz1]; exact E.flat_len zs) hnews (E.flat_cell zs) hroom (by rw [hz1, hcs, E.flat_len, ← Nat.add_mul]; exact Nat.mul_le_mul_right _ hroom)
      rw [hr2] at hr
      cases hr
      rfl
    · right
      have holds : ∀ j u, (E.flat ys)[j]? = Option.some u → w.cell? ((⟨g, 0, none⟩ : Addr).add j) = Option.some u := World.ownsRow.cells hown (g := g) rfl
      have hr2 := run_append_grow (P := P) w E.S ty E.T i0 _ E.under hi hz0 ⟨g, 0, none⟩ ys.length cap (E.flat ys) (by rw [hz1]; exact hown.1) holds ad zs.length c (E.flat zs) (by rw [hz1]; exact E.flat_len zs) hnews (by omega) (by omega)
        (growslice_fits (by omega) (by rw [hz2]; exact hby))
      rw [hr2] at hr
      cases hr
      rfl
/-- 'dst = append(dst, x)': x lies in a block of its own. -/
theorem wpList_appendE {w : World} {ops : Array Oper} {rest : List Oper} {o : Oper} {a : Act} {Q : Exit → Act → World → Prop} (E : El P α) (hgd : o.guard = none) (s x : Operand)
    (ho : o.op = .call { callee := .builtin .append, args := #[s, x], argTypes := #[E.S, E.S] }) (base : Nat) (v : Value) (ys : List α) (y : α) (ad : Addr) (c : Nat) (hs : a.eval s = v) (hown : OwnE E w base v ys)
    (hx : a.eval x = .slice (Option.some ad) 1 c) (hc : ∀ j u, (E.enc y)[j]? = Option.some u → w.cell? (ad.add j) = Option.some u) (hsz : ys.length ≤ 100000) (hbase : base ≤ w.heap.size)
    (h : ∀ v' w', OwnE E w' base v' (ys ++ [y]) → w.grownBy w' v.ownBlock → (v'.ownBlock = v.ownBlock ∨ v'.ownBlock = Option.some w.heap.size) → wpList P ops Q rest (a.put o.dst v') w') : wpList P ops Q (o :: rest) a w := by
  refine wpList_plain hgd fun K hK => ?_
  obtain ⟨v', w', hr, h2, h3, h4⟩ := run_appendE w o.type base v ys [y] ad 1 c rfl hown (by rw [E.flat_one]; exact hc) (by omega) hbase
  unfold Oper.wp execOp
  simp only [ho, resolve, invoke, builtin, Sem.run_bind, Sem.run_pure, Result.andThen_ok, List.map_toArray, List.map_cons, List.map_nil, hs, hx, hr]
  exact hK _ _ (h v' w' h2 h3 (h4 (by omega)))

variable (E)
/-- The elements d lie at blk, off, and may be written. -/
structure WrE (w : World) (blk off : Nat) (d : List α) : Prop where
  rd : RdE E w blk off d
  fr : ∀ j, j < d.length * E.K → w.frozen? ⟨blk, off + j, none⟩ = false
variable {E}
theorem WrE.lt {w : World} {blk off : Nat} {d : List α} (h : WrE E w blk off d) : blk < w.heap.size := h.rd.1
theorem WrE.block {w w' : World} {blk off : Nat} {d : List α} (h : WrE E w blk off d) (hs : w.heap.size ≤ w'.heap.size) (hb : w'.heap[blk]? = w.heap[blk]?) : WrE E w' blk off d :=
  ⟨h.rd.block hs hb, fun j hj => (World.frozen?_of_block (a := ⟨blk, off + j, none⟩) hb).trans (h.fr j hj)⟩
theorem WrE.below {w w' : World} {blk off B : Nat} {d : List α} (h : WrE E w blk off d) (hb : Below B w w') (hB : blk < B) : WrE E w' blk off d := h.block hb.size (hb.block blk hB)
theorem WrE.kept {w w' : World} {blk off : Nat} {row : Option Nat} {d : List α} (h : WrE E w blk off d) (hg : w.grownBy w' row) (hne : Option.some blk ≠ row) : WrE E w' blk off d := h.block hg.size (hg.block blk h.lt hne)
theorem WrE.drewN {w : World} {blk off : Nat} {d : List α} (h : WrE E w blk off d) (n : Nat) : WrE E (w.drewN n) blk off d := h.block (Nat.le_refl _) rfl
theorem WrE.set {w : World} {blk off : Nat} {d : List α} (h : WrE E w blk off d) {i : Nat} (hi : i < d.length) (y : α) : WrE E (w.setCells blk (off + i * E.K) (E.enc y)) blk off (d.set i y) := by
  have hlen : (E.enc y).length = E.K := E.len y
  have hmul : (i + 1) * E.K ≤ d.length * E.K := Nat.mul_le_mul_right _ hi
  rw [Nat.add_mul, Nat.one_mul] at hmul
  refine ⟨⟨by rw [size_cells]; exact h.lt, fun j v hv => ?_⟩, fun j hj => by rw [World.frozen?_setCells]; exact h.fr j (by simpa using hj)⟩
  have hj : j < d.length * E.K := by have := (List.getElem?_eq_some_iff.1 hv).1; rw [E.flat_len] at this; simpa using this
  have hdm : j / E.K < d.length := (Nat.div_lt_iff_lt_mul E.pos).2 hj
  have hc : j % E.K < E.K := Nat.mod_lt _ E.pos
  have ej : j / E.K * E.K + j % E.K = j := Nat.div_add_mod' j E.K
  rw [← ej, E.flat_get _ (j / E.K) (by simpa using hdm) _ hc, List.getElem_set] at hv
  by_cases e : i = j / E.K
  · rw [if_pos e] at hv
    have hin := World.cell?_setCells_in blk (E.enc y) (off + i * E.K) w (fun t ht => by
      rw [hlen] at ht
      have := h.rd.cell (i := i) (x := d[i]) (by simp [hi]) (c := t) (v := (E.enc d[i])[t]'(by rw [E.len]; exact ht)) (by simp)
      rw [this]; rfl) (j % E.K) (by rw [hlen]; exact hc)
    have e2 : off + j = off + i * E.K + j % E.K := by rw [e]; omega
    rw [e2, hin]
    rw [List.getElem?_eq_getElem (by rw [hlen]; exact hc)] at hv
    exact hv
  · rw [if_neg e] at hv
    have hout := World.cell?_setCells_out blk (E.enc y) (off + i * E.K) w ⟨blk, off + j, none⟩ (fun _ _ => by
      rw [hlen]
      show off + j < _ ∨ _ ≤ off + j
      rcases Nat.lt_or_ge j (i * E.K) with c | c
      · exact Or.inl (by omega)
      · right
        have h1 : ¬ j < (i + 1) * E.K := fun c2 => e (by
          have a1 : i ≤ j / E.K := (Nat.le_div_iff_mul_le E.pos).2 c
          have a2 : j / E.K < i + 1 := (Nat.div_lt_iff_lt_mul E.pos).2 c2
          omega)
        rw [Nat.add_mul, Nat.one_mul] at h1
        omega)
    rw [hout]
    refine h.rd.2 j v ?_
    rw [← ej, E.flat_get _ (j / E.K) hdm _ hc]; exact hv
end
end Go.Proofs.YtmkjalpgeljnkaaDoor

/-
  Lists of items of one's own that grow by append, one item at a time.
-/
namespace Go.Proofs.YtmkjalpgeljnkaaDoor
open Go.RowKit Go.Sort Go.Proofs

/-- The cells of items, one behind the other. -/
def flatL (ys : List (Int × Int)) : List Value := ys.flatMap encI
theorem flatL_len (ys : List (Int × Int)) : (flatL ys).length = ys.length * 2 := by
  induction ys with
  | nil => rfl
  | cons y r ih => simp [flatL, encI] at ih ⊢; omega
theorem flatL_snoc (ys : List (Int × Int)) (x : Int × Int) : flatL (ys ++ [x]) = flatL ys ++ [.int .i64 x.1, .int .i64 x.2] := by simp [flatL, encI]
theorem flatL_get (ys : List (Int × Int)) : ∀ i (h : i < ys.length), (flatL ys)[i * 2]? = some (.int .i64 ys[i].1) ∧ (flatL ys)[i * 2 + 1]? = some (.int .i64 ys[i].2) := by
  induction ys with
  | nil => intro i h; exact absurd h (Nat.not_lt_zero _)
  | cons y r ih =>
    intro i h
    match i, h with
    | 0, _ => exact ⟨rfl, rfl⟩
    | i + 1, h =>
      have := ih i (by simpa using h)
      have e : flatL (y :: r) = .int .i64 y.1 :: .int .i64 y.2 :: flatL r := rfl
      rw [e, show (i + 1) * 2 = i * 2 + 1 + 1 by omega]
      exact this

/-- The slice value v is a list of one's own, from block base on, that holds the items ys. -/
def OwnI (w : World) (base : Nat) (v : Value) (ys : List (Int × Int)) : Prop := w.ownsRow base 24 2 v ys.length (flatL ys)
theorem OwnI.nil (w : World) (base : Nat) : OwnI w base (.slice none 0 0) [] := World.ownsRow_nil w base 24 2
theorem OwnI.alloc {w : World} {base : Nat} {v : Value} {ys : List (Int × Int)} (h : OwnI w base v ys) (o : Obj) : OwnI (w.alloc o) base v ys := World.ownsRow.alloc h o
theorem OwnI.drewN {w : World} {base : Nat} {v : Value} {ys : List (Int × Int)} (h : OwnI w base v ys) (n : Nat) : OwnI (w.drewN n) base v ys := h
theorem OwnI.below {w w' : World} {base : Nat} {v : Value} {ys : List (Int × Int)} (h : OwnI w base v ys) (hb : Below w.heap.size w w') : OwnI w' base v ys :=
  World.ownsRow.kept (row := none) h ⟨hb.os, hb.tape, hb.output, hb.size, fun k hk _ => hb.block k hk⟩ (by cases hv : v.ownBlock <;> simp)
theorem OwnI.sl {w : World} {base : Nat} {v : Value} {ys : List (Int × Int)} (h : OwnI w base v ys) : Sl w v ys.toArray := by
  obtain ⟨hl, ⟨rfl, h0⟩ | ⟨g, cap, cur, rfl, hb, hg, hn, _, hs, ht⟩⟩ := h
  · exact Sl.nil' w (by simpa using h0)
  · have hlt : g < w.heap.size := (Array.getElem?_eq_some_iff.1 hg).1
    have hsz : ys.toArray.size = ys.length := by simp
    refine ⟨_, cap, by rw [hsz], by rw [hsz]; exact hn, Or.inr ⟨g, 0, rfl, hlt, fun i hi => ?_⟩⟩
    have hi' : i < ys.length := by rw [hsz] at hi; exact hi
    have hq := flatL_get ys i hi'
    have ex : ys.toArray[i]! = ys[i] := by rw [getElem!_pos _ i hi]; simp
    rw [← ht] at hq
    have key : ∀ j (u : Value), (cur.toList.take (ys.length * 2))[j]? = some u → w.cell? ⟨g, j, none⟩ = some u := fun j u hu => by
      rw [List.getElem?_take] at hu
      split at hu
      · have : cur[j]? = some u := by simpa using hu
        simp [World.cell?, hg, this]
      · cases hu
    rw [ex]
    exact ⟨by simpa using key _ _ hq.1, by simpa using key _ _ hq.2⟩

/-- Two lists of one's own that share no row. -/
def Apart (u v : Value) : Prop := ∀ k, u.ownBlock = some k → v.ownBlock ≠ some k
theorem Apart.symm {u v : Value} (h : Apart u v) : Apart v u := fun k h1 h2 => h k h2 h1
theorem Apart.nil (v : Value) : Apart (.slice none 0 0) v := fun k h => by cases h
theorem OwnI.kept {w w' : World} {base : Nat} {u v : Value} {ys : List (Int × Int)} (h : OwnI w base u ys) (hg : w.grownBy w' v.ownBlock) (ha : Apart u v) : OwnI w' base u ys := by
  refine World.ownsRow.kept h hg ?_
  cases hu : u.ownBlock with
  | none => exact Or.inl rfl
  | some k => exact Or.inr fun e => ha k hu e.symm
theorem Apart.grown {w : World} {base : Nat} {u v v' : Value} {ys : List (Int × Int)} (h : Apart u v) (hu : OwnI w base u ys) (hv : v'.ownBlock = v.ownBlock ∨ v'.ownBlock = some w.heap.size) : Apart u v' := by
  intro k h1 h2
  rcases hv with e | e
  · exact h k h1 (by rw [← e]; exact h2)
  · rw [e] at h2
    cases h2
    have := (World.ownsRow.lt hu w.heap.size h1).2
    omega

theorem info_item' : (Tryd.prog.info? 24).map (fun i => (i.zero, i.size, i.bytes)) = some (some (.agg #[.int .i64 0, .int .i64 0]), 2, 16) := by kernel_rfl

theorem run_append_item (w : World) (ty : TypeId) (base : Nat) (v : Value) (ys : List (Int × Int)) (x : Int × Int) (ad : Addr) (c : Nat) (hown : OwnI w base v ys) (c0 : w.cell? ad = some (.int .i64 x.1)) (c1 : w.cell? (ad.add 1) = some (.int .i64 x.2))
    (hsz : ys.length ≤ 1000000) (hbase : base ≤ w.heap.size) :
    ∃ v' w', (Builtin.append_ #[35, 35] ty #[v, .slice (some ad) 1 c]).run Tryd.prog w = .ok v' w' ∧ OwnI w' base v' (ys ++ [x]) ∧ w.grownBy w' v.ownBlock ∧ (v'.ownBlock = v.ownBlock ∨ v'.ownBlock = some w.heap.size) := by
  obtain ⟨i0, hi, hz0, hz1, hz2⟩ := info_parts info_item'
  have hnews : ∀ j u, [Value.int .i64 x.1, .int .i64 x.2][j]? = some u → w.cell? (ad.add j) = some u := fun j u hu => by
    match j, hu with
    | 0, hu => simp at hu; rw [← hu, show ad.add 0 = ad by simp [Addr.add]]; exact c0
    | 1, hu => simp at hu; rw [← hu]; exact c1
    | j + 2, hu => simp at hu
  have h1 : ∀ u ∈ [Value.int .i64 x.1, .int .i64 x.2], u.oneCell' = true := fun u hu => by simp at hu; rcases hu with rfl | rfl <;> rfl
  have hm : ys.length + 1 ≤ maxLen := by unfold maxLen; omega
  have app := fun bs (hb : bs ≤ w.heap.size) (ho : w.ownsRow bs 24 2 v ys.length (flatL ys)) => run_append_own (P := Tryd.prog) w bs 35 ty 24 i0 (.agg #[.int .i64 0, .int .i64 0]) 2 16 Tryd.underlying35 hi hz0 hz1 hz2 rfl (by omega)
    v ys.length (flatL ys) ho ad 1 c [.int .i64 x.1, .int .i64 x.2] rfl hnews h1 hm (by omega) hb
  obtain ⟨v', w', hr, ho, hg, hnil⟩ := app base hbase hown
  have ho' : OwnI w' base v' (ys ++ [x]) := by unfold OwnI; rw [flatL_snoc, List.length_append]; exact ho
  refine ⟨v', w', hr, ho', hg, ?_⟩
  obtain ⟨_, ⟨rfl, h0⟩ | ⟨g, cap, cur, rfl, hb, hgg, hn, hcm, hcs, ht⟩⟩ := id hown
  · right
    have e0 : ys = [] := List.eq_nil_of_length_eq_zero h0
    subst e0
    have hr2 := run_append_nil (P := Tryd.prog) w 35 ty 24 i0 _ Tryd.underlying35 hi hz0 ad 1 c [.int .i64 x.1, .int .i64 x.2] (by rw [hz1]; rfl) hnews (by omega) (by omega) (by rw [hz2]; omega)
    rw [hr2] at hr
    cases hr
    rfl
  · by_cases hroom : ys.length + 1 ≤ cap
    · left
      have hr2 := run_append_room (P := Tryd.prog) w 35 ty 24 i0 Tryd.underlying35 hi g ys.length cap cur hgg ad 1 c [.int .i64 x.1, .int .i64 x.2] (by rw [hz1]; rfl) hnews h1 hroom (by rw [hz1, hcs]; simp; omega)
      rw [hr2] at hr
      cases hr
      rfl
    · right
      have holds : ∀ j u, (flatL ys)[j]? = some u → w.cell? ((⟨g, 0, none⟩ : Addr).add j) = some u := World.ownsRow.cells hown (g := g) rfl
      have hr2 := run_append_grow (P := Tryd.prog) w 35 ty 24 i0 _ Tryd.underlying35 hi hz0 ⟨g, 0, none⟩ ys.length cap (flatL ys) (by rw [hz1]; exact hown.1) holds ad 1 c [.int .i64 x.1, .int .i64 x.2] (by rw [hz1]; rfl) hnews (by omega) (by omega)
        (growslice_fits (by omega) (by rw [hz2]; omega))
      rw [hr2] at hr
      cases hr
      rfl

/-- 'dst = append(dst, x)' at items. -/
theorem wpList_append_item {w : World} {ops : Array Oper} {rest : List Oper} {o : Oper} {a : Act} {Q : Exit → Act → World → Prop} (hgd : o.guard = none) (s x : Operand)
    (ho : o.op = .call { callee := .builtin .append, args := #[s, x], argTypes := #[35, 35] }) (base : Nat) (v : Value) (ys : List (Int × Int)) (y : Int × Int) (ad : Addr) (c : Nat) (hs : a.eval s = v) (hown : OwnI w base v ys)
    (hx : a.eval x = .slice (some ad) 1 c) (c0 : w.cell? ad = some (.int .i64 y.1)) (c1 : w.cell? (ad.add 1) = some (.int .i64 y.2)) (hsz : ys.length ≤ 1000000) (hbase : base ≤ w.heap.size)
    (h : ∀ v' w', OwnI w' base v' (ys ++ [y]) → w.grownBy w' v.ownBlock → (v'.ownBlock = v.ownBlock ∨ v'.ownBlock = some w.heap.size) → wpList Tryd.prog ops Q rest (a.put o.dst v') w') : wpList Tryd.prog ops Q (o :: rest) a w := by
  refine wpList_plain hgd fun K hK => ?_
  obtain ⟨v', w', hr, h2, h3, h4⟩ := run_append_item w o.type base v ys y ad c hown c0 c1 hsz hbase
  unfold Oper.wp execOp
  simp only [ho, resolve, invoke, builtin, Sem.run_bind, Sem.run_pure, Result.andThen_ok, List.map_toArray, List.map_cons, List.map_nil, hs, hx, hr]
  exact hK _ _ (h v' w' h2 h3 h4)
theorem below_of_grown {w w' : World} {base B : Nat} {v : Value} {ys : List (Int × Int)} (hown : OwnI w base v ys) (hg : w.grownBy w' v.ownBlock) (hB : B ≤ base) (hb : base ≤ w.heap.size) : Below B w w' :=
  (Below.refl B w).grown hg (by omega) fun k e => by have := (World.ownsRow.lt hown k e).1; omega
theorem below_drewN {B : Nat} {a w : World} (h : Below B a w) (n : Nat) : Below B a (w.drewN n) := ⟨h.os, h.tape, h.output, h.size, h.block⟩
/-- One of two lists grows. -/
theorem grow_one {w4 wq wa : World} {B : Nat} {va va' vb : Value} {az bz : List (Int × Int)} (o : Obj) (HA : OwnI wq B va az) (HB : OwnI wq B vb bz) (hap : Apart va vb) (hbr : Below B w4 wq) (hB : B ≤ wq.heap.size)
    (hg : (wq.alloc o).grownBy wa va.ownBlock) (hbk : va'.ownBlock = va.ownBlock ∨ va'.ownBlock = some (wq.alloc o).heap.size) : OwnI wa B vb bz ∧ Apart va' vb ∧ Below B w4 wa :=
  ⟨(HB.alloc o).kept hg hap.symm, (hap.symm.grown (HB.alloc o) hbk).symm, (hbr.alloc hB o).trans (below_of_grown (HA.alloc o) hg (Nat.le_refl _) (by simp; omega))⟩
end Go.Proofs.YtmkjalpgeljnkaaDoor

/-
  append(dst, src...) at items, whatever the source is; what lies behind a slice's first item.
-/
namespace Go.Proofs.YtmkjalpgeljnkaaDoor
open Go.RowKit Go.Sort Go.Proofs

theorem flatL_one (l : List (Int × Int)) : ∀ u ∈ flatL l, u.oneCell' = true := by
  intro u hu
  simp only [flatL, List.mem_flatMap] at hu
  obtain ⟨x, _, h⟩ := hu
  exact encI_one x u h
theorem flatL_append (a b : List (Int × Int)) : flatL (a ++ b) = flatL a ++ flatL b := by simp [flatL]
theorem OwnI.weak {w : World} {base base' : Nat} {v : Value} {ys : List (Int × Int)} (h : OwnI w base v ys) (hb : base' ≤ base) : OwnI w base' v ys := by
  obtain ⟨h1, h2 | ⟨g, cap, cur, e, hg, r⟩⟩ := h
  · exact ⟨h1, Or.inl h2⟩
  · exact ⟨h1, Or.inr ⟨g, cap, cur, e, by omega, r⟩⟩
/-- 'append(dst, src...)': a stretch of items behind an address. -/
theorem run_append_items (w : World) (ty : TypeId) (base : Nat) (v : Value) (ys zs : List (Int × Int)) (ad : Addr) (m c : Nat) (hm : zs.length = m) (hown : OwnI w base v ys) (hnews : ∀ j u, (flatL zs)[j]? = some u → w.cell? (ad.add j) = some u)
    (hsz : ys.length + m ≤ 1000000) (hbase : base ≤ w.heap.size) :
    ∃ v' w', (Builtin.append_ #[35, 35] ty #[v, .slice (some ad) m c]).run Tryd.prog w = .ok v' w' ∧ OwnI w' base v' (ys ++ zs) ∧ w.grownBy w' v.ownBlock := by
  subst hm
  obtain ⟨i0, hi, hz0, hz1, hz2⟩ := info_parts info_item'
  obtain ⟨v', w', hr, ho, hg, _⟩ := run_append_own (P := Tryd.prog) w base 35 ty 24 i0 (.agg #[.int .i64 0, .int .i64 0]) 2 16 Tryd.underlying35 hi hz0 hz1 hz2 rfl (by omega)
    v ys.length (flatL ys) hown ad zs.length c (flatL zs) (flatL_len zs) hnews (flatL_one zs) (by unfold maxLen; omega) (by omega) hbase
  exact ⟨v', w', hr, by unfold OwnI; rw [flatL_append, List.length_append]; exact ho, hg⟩
theorem wpList_append_items {w : World} {ops : Array Oper} {rest : List Oper} {o : Oper} {a : Act} {Q : Exit → Act → World → Prop} (hgd : o.guard = none) (s x : Operand)
    (ho : o.op = .call { callee := .builtin .append, args := #[s, x], argTypes := #[35, 35] }) (base : Nat) (v : Value) (ys zs : List (Int × Int)) (ad : Addr) (m c : Nat) (hs : a.eval s = v) (hx : a.eval x = .slice (some ad) m c) (hm : zs.length = m) (hown : OwnI w base v ys)
    (hnews : ∀ j u, (flatL zs)[j]? = some u → w.cell? (ad.add j) = some u) (hsz : ys.length + m ≤ 1000000) (hbase : base ≤ w.heap.size)
    (h : ∀ v' w', OwnI w' base v' (ys ++ zs) → w.grownBy w' v.ownBlock → wpList Tryd.prog ops Q rest (a.put o.dst v') w') : wpList Tryd.prog ops Q (o :: rest) a w := by
  refine wpList_plain hgd fun K hK => ?_
  obtain ⟨v', w', hr, h2, h3⟩ := run_append_items w o.type base v ys zs ad m c hm hown hnews hsz hbase
  unfold Oper.wp execOp
  simp only [ho, resolve, invoke, builtin, Sem.run_bind, Sem.run_pure, Result.andThen_ok, List.map_toArray, List.map_cons, List.map_nil, hs, hx, hr]
  exact hK _ _ (h v' w' h2 h3)
/-- 'append(dst, nil...)'. -/
theorem run_append_nothing (w : World) (ty : TypeId) (base : Nat) (v : Value) (ys : List (Int × Int)) (c : Nat) (hown : OwnI w base v ys) :
    (Builtin.append_ #[35, 35] ty #[v, .slice none 0 c]).run Tryd.prog w = .ok v w := by
  obtain ⟨i0, hi, hz0, hz1, hz2⟩ := info_parts info_item'
  obtain ⟨_, ⟨rfl, h0⟩ | ⟨g, cap, cur, rfl, _, _, hn, _⟩⟩ := hown
  · simp [Builtin.append_, run_underlying Tryd.underlying35, sizeOf, typeInfo, hi, Builtin.lenOf, Builtin.firstCells]
  · simp [Builtin.append_, run_underlying Tryd.underlying35, sizeOf, typeInfo, hi, Builtin.lenOf, Builtin.firstCells, hn, storeCells]
theorem wpList_append_nothing {w : World} {ops : Array Oper} {rest : List Oper} {o : Oper} {a : Act} {Q : Exit → Act → World → Prop} (hgd : o.guard = none) (s x : Operand)
    (ho : o.op = .call { callee := .builtin .append, args := #[s, x], argTypes := #[35, 35] }) (base : Nat) (v : Value) (ys : List (Int × Int)) (c : Nat) (hs : a.eval s = v) (hx : a.eval x = .slice none 0 c) (hown : OwnI w base v ys)
    (h : wpList Tryd.prog ops Q rest (a.put o.dst v) w) : wpList Tryd.prog ops Q (o :: rest) a w := by
  refine wpList_plain hgd fun K hK => ?_
  have hr := run_append_nothing w o.type base v ys c hown
  unfold Oper.wp execOp
  simp only [ho, resolve, invoke, builtin, Sem.run_bind, Sem.run_pure, Result.andThen_ok, List.map_toArray, List.map_cons, List.map_nil, hs, hx, hr]
  exact hK _ _ h
theorem own_some {w : World} {base n : Nat} {v : Value} {l : List (Int × Int)} (hl : l.length = n) (hn : 0 < n) (h : OwnI w base v l) :
    ∃ g cp, v = .slice (some ⟨g, 0, none⟩) n cp ∧ base ≤ g ∧ g < w.heap.size ∧ n ≤ cp ∧ ∀ j u, (flatL l)[j]? = some u → w.cell? ⟨g, j, none⟩ = some u := by
  subst hl
  obtain ⟨_, ⟨_, h0⟩ | ⟨g, cp, cur, rfl, hb, hg, hc, _⟩⟩ := id h
  · omega
  · refine ⟨g, cp, rfl, hb, (Array.getElem?_eq_some_iff.1 hg).1, hc, fun j u hu => ?_⟩
    have hj := (List.getElem?_eq_some_iff.1 hu).1
    rw [flatL_len] at hj
    exact (World.ownsRow.cellAt h j hj).trans hu

theorem RdAt.cellsL {w : World} {blk off : Nat} {xs : Array (Int × Int)} (h : RdAt w blk off xs) : ∀ j u, (flatL xs.toList)[j]? = some u → w.cell? ((⟨blk, off, none⟩ : Addr).add j) = some u := by
  intro j u hu
  rw [show ((⟨blk, off, none⟩ : Addr).add j) = ⟨blk, off + j, none⟩ by unfold Addr.add; split <;> simp_all]
  have hj : j < xs.size * 2 := by
    have := (List.getElem?_eq_some_iff.1 hu).1
    rw [flatL_len] at this
    simpa using this
  have hl : j / 2 < xs.toList.length := by simp; omega
  obtain ⟨g0, g1⟩ := flatL_get xs.toList (j / 2) hl
  obtain ⟨c0, c1⟩ := h.2 (j / 2) (by omega)
  rw [getD_toList xs (j / 2) hl] at g0 g1
  by_cases hp : j % 2 = 0
  · rw [show j / 2 * 2 = j by omega] at g0
    rw [hu] at g0
    rw [show off + j = off + j / 2 * 2 by omega, g0]; exact c0
  · rw [show j / 2 * 2 + 1 = j by omega] at g1
    rw [hu] at g1
    rw [show off + j = off + j / 2 * 2 + 1 by omega, g1]; exact c1

theorem run_append_sl (w : World) (ty : TypeId) (base : Nat) (v s : Value) (ys : List (Int × Int)) (zs : Array (Int × Int)) (hown : OwnI w base v ys) (hs : Sl w s zs) (hsz : ys.length + zs.size ≤ 1000000) (hbase : base ≤ w.heap.size) :
    ∃ v' w', (Builtin.append_ #[35, 35] ty #[v, s]).run Tryd.prog w = .ok v' w' ∧ OwnI w' base v' (ys ++ zs.toList) ∧ w.grownBy w' v.ownBlock := by
  obtain ⟨p, cap, rfl, hc, h0 | ⟨blk, off, rfl, hr⟩⟩ := hs
  · have e0 : zs = #[] := Array.eq_empty_of_size_eq_zero h0
    subst e0
    cases p with
    | none => exact ⟨v, w, by simpa using run_append_nothing w ty base v ys cap hown, by simpa using hown, World.grownBy.refl w _⟩
    | some ad =>
      obtain ⟨v', w', hr, h1, h2⟩ := run_append_items w ty base v ys [] ad 0 cap rfl hown (fun j u hu => by simp [flatL] at hu) (by simpa using hsz) hbase
      exact ⟨v', w', by simpa using hr, by simpa using h1, h2⟩
  · exact run_append_items w ty base v ys zs.toList ⟨blk, off, none⟩ zs.size cap (by simp) hown hr.cellsL hsz hbase
theorem wpList_append_sl {w : World} {ops : Array Oper} {rest : List Oper} {o : Oper} {a : Act} {Q : Exit → Act → World → Prop} (hgd : o.guard = none) (s x : Operand)
    (ho : o.op = .call { callee := .builtin .append, args := #[s, x], argTypes := #[35, 35] }) (base : Nat) (v u : Value) (ys : List (Int × Int)) (zs : Array (Int × Int)) (hs : a.eval s = v) (hx : a.eval x = u) (hown : OwnI w base v ys) (hsl : Sl w u zs)
    (hsz : ys.length + zs.size ≤ 1000000) (hbase : base ≤ w.heap.size)
    (h : ∀ v' w', OwnI w' base v' (ys ++ zs.toList) → w.grownBy w' v.ownBlock → wpList Tryd.prog ops Q rest (a.put o.dst v') w') : wpList Tryd.prog ops Q (o :: rest) a w := by
  refine wpList_plain hgd fun K hK => ?_
  obtain ⟨v', w', hr, h2, h3⟩ := run_append_sl w o.type base v u ys zs hown hsl hsz hbase
  unfold Oper.wp execOp
  simp only [ho, resolve, invoke, builtin, Sem.run_bind, Sem.run_pure, Result.andThen_ok, List.map_toArray, List.map_cons, List.map_nil, hs, hx, hr]
  exact hK _ _ (h v' w' h2 h3)

/-- What lies behind a slice's first item. -/
theorem RdAt.tail {w : World} {blk off : Nat} {x : Int × Int} {xs : List (Int × Int)} (h : RdAt w blk off (x :: xs).toArray) : RdAt w blk (off + 2) xs.toArray := by
  refine ⟨h.1, fun i hi => ?_⟩
  have hi' : i < xs.length := by simpa using hi
  have e : (x :: xs).toArray[i + 1]! = xs.toArray[i]! := by
    rw [getElem!_pos _ (i + 1) (by simp; omega), getElem!_pos _ i hi]; simp
  have := h.2 (i + 1) (by simp; omega)
  rw [e] at this
  exact ⟨by rw [show off + 2 + i * 2 = off + (i + 1) * 2 by omega]; exact this.1, by rw [show off + 2 + i * 2 + 1 = off + (i + 1) * 2 + 1 by omega]; exact this.2⟩
theorem Sl.tail {w : World} {blk off cap n : Nat} {x : Int × Int} {xs : List (Int × Int)} (h : RdAt w blk off (x :: xs).toArray) (hn : xs.length + 1 = n) (hc : n ≤ cap) : Sl w (.slice (some ⟨blk, off + 2, none⟩) (n - 1) (cap - 1)) xs.toArray :=
  ⟨some ⟨blk, off + 2, none⟩, cap - 1, by rw [show xs.toArray.size = n - 1 by simp; omega], by simp; omega, Or.inr ⟨blk, off + 2, rfl, h.tail⟩⟩
theorem Sl.empty (w : World) (p : Option Addr) (n cap : Nat) (xs : List (Int × Int)) (hx : xs.length = n) (h : n = 0) : Sl w (.slice p n cap) xs.toArray :=
  ⟨p, cap, by simp [hx], by simp; omega, Or.inl (by rw [List.size_toArray, hx]; exact h)⟩
end Go.Proofs.YtmkjalpgeljnkaaDoor

/-
  Trees of package api, and lists of items, as elements of slices; heaps of trees in memory.
-/
namespace Go.Proofs.YtmkjalpgeljnkaaDoor
open Go.RowKit Go.Sort Go.Proofs

/-- A slice's three words. -/
abbrev SlV := Option Addr × Nat × Nat
def encT (x : Int × SlV) : List Value := [.int .i64 x.1, .slice x.2.1 x.2.2.1 x.2.2.2]
def ET : El Tryd.prog (Int × SlV) where
  enc := encT
  K := 2
  T := 37
  S := 22
  zero := .agg #[.int .i64 0, .slice none 0 0]
  bytes := 32
  pos := by decide
  small := by decide
  len := fun _ => rfl
  one := fun x v hv => by
    simp only [encT, List.mem_cons, List.not_mem_nil, or_false] at hv
    rcases hv with rfl | rfl <;> rfl
  zlen := rfl
  info := by kernel_rfl
  under := Tryd.underlying22
theorem RdE.tree {w : World} {blk off i : Nat} {xs : List (Int × SlV)} (h : RdE ET w blk off xs) {r : Int} {s : SlV} (hx : xs[i]? = some (r, s)) :
    w.cell? ⟨blk, off + i * 2, none⟩ = some (.int .i64 r) ∧ w.cell? ⟨blk, off + i * 2 + 1, none⟩ = some (.slice s.1 s.2.1 s.2.2) :=
  ⟨h.cell hx (c := 0) rfl, h.cell hx (c := 1) rfl⟩
/-- A tree in a block of its own. -/
theorem new_tree (W : World) (g : Nat) (hg : g = W.heap.size) (r : Int) (p : Option Addr) (n c : Nat) : ∀ j u, (ET.enc (r, p, n, c))[j]? = some u → (W.alloc (.cells #[.int .i64 r, .slice p n c] 37)).cell? ((⟨g, 0, none⟩ : Addr).add j) = some u := by
  subst hg
  intro j u hu
  match j, hu with
  | 0, hu => cases hu; simp [Addr.add]
  | 1, hu => cases hu; simp [Addr.add]
  | j + 2, hu => simp [ET, encT] at hu
def encS (x : SlV) : List Value := [.slice x.1 x.2.1 x.2.2]
def ES : El Tryd.prog SlV where
  enc := encS
  K := 1
  T := 35
  S := 60
  zero := .slice none 0 0
  bytes := 24
  pos := by decide
  small := by decide
  len := fun _ => rfl
  one := fun x v hv => by
    simp only [encS, List.mem_cons, List.not_mem_nil, or_false] at hv
    rw [hv]; rfl
  zlen := rfl
  info := by kernel_rfl
  under := Tryd.underlying60
theorem RdE.row {w : World} {blk off i : Nat} {xs : List SlV} (h : RdE ES w blk off xs) {s : SlV} (hx : xs[i]? = some s) : w.cell? ⟨blk, off + i, none⟩ = some (.slice s.1 s.2.1 s.2.2) := by
  have := h.cell hx (c := 0) rfl
  simpa [ES] using this

/-- The slice value v is the heap of trees h: ranks, and the items of each. -/
def HpAt (w : World) (v : Value) (h : List (Int × List (Int × Int))) : Prop :=
  ∃ ts : List (Int × SlV), SlE ET w v ts ∧ ts.length = h.length ∧ ∀ (i : Nat) (r : Int) (l : List (Int × Int)), h[i]? = some (r, l) → ∃ s : SlV, ts[i]? = some (r, s) ∧ Sl w (.slice s.1 s.2.1 s.2.2) l.toArray
theorem HpAt.below {w w' : World} {v : Value} {h : List (Int × List (Int × Int))} (H : HpAt w v h) (hb : Below w.heap.size w w') : HpAt w' v h := by
  obtain ⟨ts, h1, h2, h3⟩ := H
  refine ⟨ts, h1.below hb, h2, fun i r l hi => ?_⟩
  obtain ⟨s, e, hs⟩ := h3 i r l hi
  exact ⟨s, e, hs.below hb⟩
theorem HpAt.nil (w : World) (p : Option Addr) (cap : Nat) : HpAt w (.slice p 0 cap) [] := ⟨[], SlE.empty _ _ _, rfl, fun i r l h => by simp at h⟩
theorem HpAt.form {w : World} {v : Value} {h : List (Int × List (Int × Int))} (H : HpAt w v h) : ∃ p cap, v = .slice p h.length cap := by
  obtain ⟨ts, ⟨p, cap, e, _⟩, h2, _⟩ := H
  exact ⟨p, cap, by rw [e, h2]⟩
/-- The tree at a place: where its rank and its items stand. -/
theorem HpAt.tree {w : World} {p : Option Addr} {n cap : Nat} {h : List (Int × List (Int × Int))} (H : HpAt w (.slice p n cap) h) {i : Nat} {r : Int} {l : List (Int × Int)} (hi : h[i]? = some (r, l)) :
    ∃ blk off q c, p = some ⟨blk, off, none⟩ ∧ blk < w.heap.size ∧ w.cell? ⟨blk, off + i * 2, none⟩ = some (.int .i64 r) ∧ w.cell? ⟨blk, off + i * 2 + 1, none⟩ = some (.slice q l.length c) ∧ Sl w (.slice q l.length c) l.toArray := by
  obtain ⟨ts, h1, h2, h3⟩ := H
  obtain ⟨s, e, hs⟩ := h3 i r l hi
  obtain ⟨p', cap', e', hc, h0 | ⟨blk, off, rfl, hr⟩⟩ := h1
  · rw [h0] at e; simp at e
  · simp only [Value.slice.injEq] at e'
    obtain ⟨rfl, _, _⟩ := e'
    obtain ⟨c0, c1⟩ := hr.tree e
    obtain ⟨q, c, es, _⟩ := id hs
    rw [List.size_toArray] at es
    rw [es] at c1 hs
    exact ⟨blk, off, q, c, rfl, hr.1, c0, c1, hs⟩
end Go.Proofs.YtmkjalpgeljnkaaDoor

/-
  Plain facts of heaps of trees: trees as lists, linking, melding rank by rank.
-/
namespace Go.Proofs.YtmkjalpgeljnkaaDoor

/-- Below the root at place root stand, from place from on, trees of the ranks r - 1, .. 0; no key is less than that of the root above it. -/
def Kids (key : Nat → Int) : Nat → Nat → Nat → Prop
  | 0, _, _ => True
  | r + 1, root, from_ => key root ≤ key from_ ∧ Kids key r from_ (from_ + 1) ∧ Kids key r root (from_ + 2 ^ r)
/-- The place of the root above the one at a place. -/
def aboveK : Nat → Nat → Nat → Nat → Nat
  | 0, root, _, _ => root
  | r + 1, root, from_, at_ => if from_ + 2 ^ r ≤ at_ then aboveK r root (from_ + 2 ^ r) at_ else if at_ = from_ then root else aboveK r from_ (from_ + 1) at_
theorem two_pos (r : Nat) : 0 < 2 ^ r := Nat.pow_pos (by omega)
theorem Kids.above {key : Nat → Int} : ∀ (r root from_ : Nat), Kids key r root from_ → ∀ k, from_ ≤ k → k + 1 < from_ + 2 ^ r → key (aboveK r root from_ k) ≤ key k
  | 0, _, _, _, k, h1, h2 => by simp at h2; omega
  | r + 1, root, from_, ⟨a, b, c⟩, k, h1, h2 => by
    rw [Nat.pow_succ] at h2
    simp only [aboveK]
    by_cases q : from_ + 2 ^ r ≤ k
    · rw [if_pos q]; exact Kids.above r root _ c k q (by omega)
    · rw [if_neg q]
      by_cases e : k = from_
      · rw [if_pos e, e]; exact a
      · rw [if_neg e]; exact Kids.above r from_ _ b k (by omega) (by omega)
theorem Kids.of {key : Nat → Int} : ∀ (r root from_ : Nat), (∀ k, from_ ≤ k → k + 1 < from_ + 2 ^ r → key (aboveK r root from_ k) ≤ key k) → Kids key r root from_
  | 0, _, _, _ => trivial
  | r + 1, root, from_, h => by
    have hp := two_pos r
    have hs : 2 ^ (r + 1) = 2 ^ r + 2 ^ r := by rw [Nat.pow_succ]; omega
    refine ⟨?_, Kids.of r from_ (from_ + 1) fun k h1 h2 => ?_, Kids.of r root (from_ + 2 ^ r) fun k h1 h2 => ?_⟩
    · have := h from_ (Nat.le_refl _) (by omega)
      simp only [aboveK] at this
      rw [if_neg (by omega), if_pos trivial] at this
      exact this
    · have := h k (by omega) (by omega)
      simp only [aboveK] at this
      rw [if_neg (by omega), if_neg (by omega)] at this
      exact this
    · have := h k (by omega) (by omega)
      simp only [aboveK] at this
      rw [if_pos h1] at this
      exact this
/-- It hangs on what stands there alone. -/
theorem Kids.moved {key key' : Nat → Int} : ∀ (r root from_ root' from' : Nat), key' root' = key root → (∀ j, j + 1 < 2 ^ r → key' (from' + j) = key (from_ + j)) → Kids key r root from_ → Kids key' r root' from'
  | 0, _, _, _, _, _, _, _ => trivial
  | r + 1, root, from_, root', from', h1, h2, ⟨a, b, c⟩ => by
    have hp := two_pos r
    have hs : 2 ^ (r + 1) = 2 ^ r + 2 ^ r := by rw [Nat.pow_succ]; omega
    have h0 := h2 0 (by omega)
    simp only [Nat.add_zero] at h0
    refine ⟨by rw [h1, h0]; exact a, Kids.moved r from_ (from_ + 1) from' (from' + 1) h0 (fun j hj => ?_) b, Kids.moved r root (from_ + 2 ^ r) root' (from' + 2 ^ r) h1 (fun j hj => ?_) c⟩
    · have := h2 (j + 1) (by omega)
      rw [show from' + 1 + j = from' + (j + 1) by omega, show from_ + 1 + j = from_ + (j + 1) by omega]; exact this
    · have := h2 (2 ^ r + j) (by omega)
      rw [show from' + 2 ^ r + j = from' + (2 ^ r + j) by omega, show from_ + 2 ^ r + j = from_ + (2 ^ r + j) by omega]; exact this
theorem Kids.least {key : Nat → Int} : ∀ (r root from_ : Nat), Kids key r root from_ → ∀ j, j + 1 < 2 ^ r → key root ≤ key (from_ + j)
  | 0, _, _, _, j, h => by simp at h
  | r + 1, root, from_, ⟨a, b, c⟩, j, h => by
    have hs : 2 ^ (r + 1) = 2 ^ r + 2 ^ r := by rw [Nat.pow_succ]; omega
    by_cases q : 2 ^ r ≤ j
    · have := Kids.least r root _ c (j - 2 ^ r) (by omega)
      rw [show from_ + 2 ^ r + (j - 2 ^ r) = from_ + j by omega] at this
      exact this
    · cases j with
      | zero => exact a
      | succ j =>
        have := Kids.least r from_ _ b j (by omega)
        rw [show from_ + 1 + j = from_ + (j + 1) by omega] at this
        exact Int.le_trans a this
/-- The tree of rank i below the root of one of rank r. -/
theorem Kids.sub {key : Nat → Int} : ∀ (r root from_ : Nat), Kids key r root from_ → ∀ i, i < r → Kids key i (from_ + (2 ^ r - 2 ^ (i + 1))) (from_ + (2 ^ r - 2 ^ (i + 1)) + 1) ∧ key root ≤ key (from_ + (2 ^ r - 2 ^ (i + 1)))
  | 0, _, _, _, i, h => absurd h (Nat.not_lt_zero _)
  | r + 1, root, from_, ⟨a, b, c⟩, i, h => by
    have hs : 2 ^ (r + 1) = 2 ^ r + 2 ^ r := by rw [Nat.pow_succ]; omega
    rcases Nat.lt_or_eq_of_le (Nat.le_of_lt_succ h) with q | rfl
    · have := Kids.sub r root _ c i q
      have hle : 2 ^ (i + 1) ≤ 2 ^ r := Nat.pow_le_pow_right (by omega) q
      rw [show from_ + 2 ^ r + (2 ^ r - 2 ^ (i + 1)) = from_ + (2 ^ (r + 1) - 2 ^ (i + 1)) by rw [hs]; clear hs this; generalize 2 ^ r = A at hle ⊢; generalize 2 ^ (i + 1) = B at hle ⊢; omega] at this
      exact this
    · rw [Nat.sub_self, Nat.add_zero]; exact ⟨b, a⟩

/-- The key of the item at a place of a list. -/
def keyL (l : List (Int × Int)) (i : Nat) : Int := (l[i]?.getD (0, 0)).1
/-- The list is a tree of rank r. -/
structure IsT (r : Nat) (l : List (Int × Int)) : Prop where
  len : l.length = 2 ^ r
  kids : Kids (keyL l) r 0 1
theorem keyL_cons (x : Int × Int) (l : List (Int × Int)) (i : Nat) : keyL (x :: l) (i + 1) = keyL l i := by simp [keyL]
theorem keyL_head (x : Int × Int) (l : List (Int × Int)) : keyL (x :: l) 0 = x.1 := rfl
theorem keyL_left (a b : List (Int × Int)) {i : Nat} (h : i < a.length) : keyL (a ++ b) i = keyL a i := by
  unfold keyL; rw [List.getElem?_append_left h]
theorem keyL_right (a b : List (Int × Int)) (i : Nat) : keyL (a ++ b) (a.length + i) = keyL b i := by
  unfold keyL; rw [List.getElem?_append_right (by omega)]; simp
theorem IsT.one (x : Int × Int) : IsT 0 [x] := ⟨rfl, trivial⟩
theorem IsT.ne {r : Nat} {l : List (Int × Int)} (h : IsT r l) : l ≠ [] := fun e => by have h1 := h.len; rw [e] at h1; have h2 := two_pos r; simp only [List.length_nil] at h1; omega
theorem IsT.cons {r : Nat} {l : List (Int × Int)} (h : IsT r l) : ∃ x t, l = x :: t := by
  cases l with
  | nil => exact absurd rfl h.ne
  | cons x t => exact ⟨x, t, rfl⟩
theorem IsT.least {r : Nat} {x : Int × Int} {l : List (Int × Int)} (h : IsT r (x :: l)) : ∀ y ∈ x :: l, x.1 ≤ y.1 := by
  intro y hy
  rcases List.mem_cons.1 hy with rfl | hm
  · exact Int.le_refl _
  · obtain ⟨j, hj, e⟩ := List.getElem_of_mem hm
    have hl := h.len
    simp only [List.length_cons] at hl
    have := Kids.least r 0 1 h.kids j (by omega)
    rw [Nat.add_comm, keyL_cons, keyL_head] at this
    unfold keyL at this
    rw [List.getElem?_eq_getElem hj, e] at this
    exact this

/-- Two trees linked: the lesser root is the root, the first one's if they are alike. -/
def linkL : List (Int × Int) → List (Int × Int) → List (Int × Int)
  | x :: a, y :: b => if y.1 < x.1 then y :: ((x :: a) ++ b) else x :: ((y :: b) ++ a)
  | a, b => a ++ b
theorem linkL_perm (a b : List (Int × Int)) : (linkL a b).Perm (a ++ b) := by
  unfold linkL
  split
  · split
    · refine List.Perm.trans ?_ List.perm_middle.symm
      exact List.Perm.refl _
    · rename_i x a y b _
      show (x :: ((y :: b) ++ a)).Perm (x :: (a ++ y :: b))
      exact List.Perm.cons _ List.perm_append_comm
  · exact List.Perm.refl _
/-- A root over a tree and the trees of another root. -/
theorem IsT.over {r : Nat} {x y : Int × Int} {s t : List (Int × Int)} (hs : IsT r (y :: s)) (ht : IsT r (x :: t)) (hle : x.1 ≤ y.1) : IsT (r + 1) (x :: ((y :: s) ++ t)) := by
  have h1 := hs.len
  have h2 := ht.len
  simp only [List.length_cons] at h1 h2
  refine ⟨?_, ?_, ?_, ?_⟩
  · simp only [List.length_cons, List.length_append, Nat.pow_succ]; omega
  · rw [keyL_head, show keyL (x :: ((y :: s) ++ t)) 1 = y.1 from rfl]; exact hle
  · refine Kids.moved r 0 1 1 2 rfl (fun j hj => ?_) hs.kids
    rw [show 2 + j = (1 + j) + 1 by omega, keyL_cons, keyL_left _ _ (by simp only [List.length_cons]; omega)]
  · refine Kids.moved (key := keyL (x :: t)) r 0 1 0 (1 + 2 ^ r) rfl (fun j _ => ?_) ht.kids
    rw [show 1 + 2 ^ r + j = (2 ^ r + j) + 1 by omega, keyL_cons, show 1 + j = j + 1 by omega, keyL_cons]
    have := keyL_right (y :: s) t j
    rw [List.length_cons, h1] at this
    exact this
theorem IsT.link {r : Nat} {a b : List (Int × Int)} (ha : IsT r a) (hb : IsT r b) : IsT (r + 1) (linkL a b) := by
  obtain ⟨x, a', rfl⟩ := ha.cons
  obtain ⟨y, b', rfl⟩ := hb.cons
  unfold linkL
  by_cases h : y.1 < x.1
  · simp only [if_pos h]; exact IsT.over ha hb (Int.le_of_lt h)
  · simp only [if_neg h]; exact IsT.over hb ha (by omega)
/-- The trees below a root. -/
theorem IsT.sub {r : Nat} {l : List (Int × Int)} (h : IsT r l) {i : Nat} (hi : i < r) : IsT i ((l.drop (1 + (2 ^ r - 2 ^ (i + 1)))).take (2 ^ i)) := by
  have hs : 2 ^ (i + 1) = 2 ^ i + 2 ^ i := by rw [Nat.pow_succ]; omega
  have hle : 2 ^ (i + 1) ≤ 2 ^ r := Nat.pow_le_pow_right (by omega) hi
  have hp := two_pos i
  have hl := h.len
  have key : ∀ j, j < 2 ^ i → keyL ((l.drop (1 + (2 ^ r - 2 ^ (i + 1)))).take (2 ^ i)) j = keyL l (1 + (2 ^ r - 2 ^ (i + 1)) + j) := fun j hj => by
    unfold keyL
    rw [List.getElem?_take, if_pos hj, List.getElem?_drop]
  refine ⟨by rw [List.length_take, List.length_drop]; omega, ?_⟩
  obtain ⟨k1, _⟩ := Kids.sub r 0 1 h.kids i hi
  refine Kids.moved i _ _ 0 1 (by rw [key 0 hp, Nat.add_zero]) (fun j hj => ?_) k1
  rw [key (1 + j) (by omega), show 1 + (2 ^ r - 2 ^ (i + 1)) + (1 + j) = 1 + (2 ^ r - 2 ^ (i + 1)) + 1 + j by omega]
end Go.Proofs.YtmkjalpgeljnkaaDoor

/-
  Plain facts of heaps of trees: melding rank by rank, the trees below a root, the digits of a size.
-/
namespace Go.Proofs.YtmkjalpgeljnkaaDoor

/-- A tree and its rank. -/
abbrev TrL := Nat × List (Int × Int)
def itemsH (h : List TrL) : List (Int × Int) := h.flatMap (·.2)
theorem itemsH_nil : itemsH [] = [] := rfl
theorem itemsH_cons (t : TrL) (h : List TrL) : itemsH (t :: h) = t.2 ++ itemsH h := by simp [itemsH]
theorem itemsH_append (a b : List TrL) : itemsH (a ++ b) = itemsH a ++ itemsH b := by simp [itemsH]
/-- No tree, or one of rank r. -/
def TE (r : Nat) (l : List (Int × Int)) : Prop := l = [] ∨ IsT r l
/-- Trees of rising ranks. -/
structure IsH (h : List TrL) : Prop where
  trees : ∀ t ∈ h, IsT t.1 t.2
  rise : h.Pairwise (fun a b => a.1 < b.1)
theorem IsH.nil : IsH [] := ⟨fun _ h => (by cases h), List.Pairwise.nil⟩
theorem IsH.tail {t : TrL} {h : List TrL} (H : IsH (t :: h)) : IsH h := ⟨fun u hu => H.trees u (List.mem_cons_of_mem _ hu), (List.pairwise_cons.1 H.rise).2⟩
theorem IsH.one {r : Nat} {l : List (Int × Int)} (h : IsT r l) : IsH [(r, l)] := ⟨fun t ht => by rw [List.mem_singleton.1 ht]; exact h, List.pairwise_singleton _ _⟩

def optL (l : List (Int × Int)) : List (List (Int × Int)) := if l = [] then [] else [l]
/-- Of a rank: a tree carried, one of a, one of b, as far as there are such. -/
def pickL (c x y : List (Int × Int)) : List (List (Int × Int)) := optL c ++ optL x ++ optL y
/-- What is in the heap then. -/
def outD : List (List (Int × Int)) → List (Int × Int)
  | [a] => a
  | [a, _, _] => a
  | _ => []
/-- What is carried. -/
def carD : List (List (Int × Int)) → List (Int × Int)
  | [a, b] => linkL a b
  | [_, a, b] => linkL a b
  | _ => []
def putR (r : Nat) (l : List (Int × Int)) : List TrL := if l = [] then [] else [(r, l)]
/-- Melded, from rank r on, n ranks. -/
def meldTo (x y : Nat → List (Int × Int)) : Nat → Nat → List (Int × Int) → List TrL
  | 0, _, _ => []
  | n + 1, r, c => putR r (outD (pickL c (x r) (y r))) ++ meldTo x y n (r + 1) (carD (pickL c (x r) (y r)))
/-- What is carried behind the last of n ranks. -/
def carTo (x y : Nat → List (Int × Int)) : Nat → Nat → List (Int × Int) → List (Int × Int)
  | 0, _, c => c
  | n + 1, r, c => carTo x y n (r + 1) (carD (pickL c (x r) (y r)))
def catTo (x : Nat → List (Int × Int)) : Nat → Nat → List (Int × Int)
  | 0, _ => []
  | n + 1, r => x r ++ catTo x n (r + 1)

theorem pick_step {r : Nat} {c x y : List (Int × Int)} (hc : TE r c) (hx : TE r x) (hy : TE r y) :
    TE r (outD (pickL c x y)) ∧ TE (r + 1) (carD (pickL c x y)) ∧ (outD (pickL c x y) ++ carD (pickL c x y)).Perm (c ++ (x ++ y)) := by
  rcases hc with rfl | hc
  · rcases hx with rfl | hx
    · rcases hy with rfl | hy
      · simp [pickL, optL, outD, carD, TE]
      · have := hy.ne
        simp [pickL, optL, outD, carD, TE, this, hy]
    · have hxn := hx.ne
      rcases hy with rfl | hy
      · simp [pickL, optL, outD, carD, TE, hxn, hx]
      · have hyn := hy.ne
        simp only [pickL, optL, outD, carD, TE, hxn, hyn, if_true, if_false, List.nil_append, List.cons_append]
        exact ⟨Or.inl trivial, Or.inr (hx.link hy), linkL_perm x y⟩
  · have hcn := hc.ne
    rcases hx with rfl | hx
    · rcases hy with rfl | hy
      · simp [pickL, optL, outD, carD, TE, hcn, hc]
      · have hyn := hy.ne
        simp only [pickL, optL, outD, carD, TE, hcn, hyn, if_true, if_false, List.nil_append, List.append_nil, List.singleton_append]
        exact ⟨Or.inl trivial, Or.inr (hc.link hy), linkL_perm c y⟩
    · have hxn := hx.ne
      rcases hy with rfl | hy
      · simp only [pickL, optL, outD, carD, TE, hcn, hxn, if_true, if_false, List.append_nil, List.singleton_append, List.nil_append]
        exact ⟨Or.inl trivial, Or.inr (hc.link hx), linkL_perm c x⟩
      · have hyn := hy.ne
        simp only [pickL, optL, outD, carD, TE, hcn, hxn, hyn, if_false, List.cons_append]
        exact ⟨Or.inr hc, Or.inr (hx.link hy), List.Perm.append_left _ (linkL_perm x y)⟩
theorem putR_items (r : Nat) (l : List (Int × Int)) : itemsH (putR r l) = l := by
  unfold putR
  split
  · rename_i h; rw [h]; rfl
  · simp [itemsH]
theorem putR_mem {r : Nat} {l : List (Int × Int)} {t : TrL} (h : t ∈ putR r l) : t = (r, l) ∧ l ≠ [] := by
  unfold putR at h
  split at h
  · cases h
  · rename_i q; exact ⟨List.mem_singleton.1 h, q⟩
theorem meldTo_spec (x y : Nat → List (Int × Int)) (hx : ∀ j, TE j (x j)) (hy : ∀ j, TE j (y j)) : ∀ (n r : Nat) (c : List (Int × Int)), TE r c →
    (∀ t ∈ meldTo x y n r c, IsT t.1 t.2 ∧ r ≤ t.1) ∧ (meldTo x y n r c).Pairwise (fun a b => a.1 < b.1) ∧ TE (r + n) (carTo x y n r c) ∧ (itemsH (meldTo x y n r c) ++ carTo x y n r c).Perm (c ++ (catTo x n r ++ catTo y n r))
  | 0, r, c, hc => ⟨fun _ h => (by cases h), List.Pairwise.nil, hc, by simp [meldTo, carTo, catTo, itemsH]⟩
  | n + 1, r, c, hc => by
    obtain ⟨h1, h2, h3⟩ := pick_step hc (hx r) (hy r)
    obtain ⟨i1, i2, i3, i4⟩ := meldTo_spec x y hx hy n (r + 1) _ h2
    refine ⟨?_, ?_, ?_, ?_⟩
    · intro t ht
      rcases List.mem_append.1 ht with q | q
      · obtain ⟨rfl, hne⟩ := putR_mem q
        rcases h1 with e | h1
        · exact absurd e hne
        · exact ⟨h1, Nat.le_refl _⟩
      · have := i1 t q; exact ⟨this.1, by omega⟩
    · show (putR r _ ++ meldTo x y n (r + 1) _).Pairwise _
      rw [List.pairwise_append]
      refine ⟨?_, i2, fun a ha b hb => ?_⟩
      · unfold putR; split <;> simp
      · obtain ⟨rfl, _⟩ := putR_mem ha
        have := (i1 b hb).2
        show r < b.1
        omega
    · show TE (r + (n + 1)) (carTo x y n (r + 1) _)
      rw [show r + (n + 1) = r + 1 + n by omega]; exact i3
    · show (itemsH (putR r _ ++ meldTo x y n (r + 1) _) ++ carTo x y n (r + 1) _).Perm (c ++ ((x r ++ catTo x n (r + 1)) ++ (y r ++ catTo y n (r + 1))))
      rw [itemsH_append, putR_items, List.append_assoc]
      refine (List.Perm.append_left _ i4).trans ?_
      rw [← List.append_assoc]
      refine (List.Perm.append_right _ h3).trans ?_
      simp only [List.append_assoc]
      refine List.Perm.append_left _ (List.Perm.append_left _ ?_)
      rw [← List.append_assoc, ← List.append_assoc]
      exact List.Perm.append_right _ List.perm_append_comm
/-- The tree of a rank, or none. -/
def digitH (h : List TrL) (r : Nat) : List (Int × Int) := ((h.find? (fun t => t.1 == r)).map (·.2)).getD []
theorem digitH_nil (r : Nat) : digitH [] r = [] := rfl
theorem digitH_eq (l : List (Int × Int)) (h : List TrL) (r : Nat) : digitH ((r, l) :: h) r = l := by simp [digitH]
theorem digitH_ne {q r : Nat} (l : List (Int × Int)) (h : List TrL) (e : q ≠ r) : digitH ((q, l) :: h) r = digitH h r := by simp [digitH, e]
theorem digitH_te {h : List TrL} (H : IsH h) (r : Nat) : TE r (digitH h r) := by
  induction h with
  | nil => exact Or.inl rfl
  | cons t h ih =>
    obtain ⟨q, l⟩ := t
    by_cases e : q = r
    · subst e; rw [digitH_eq]; exact Or.inr (H.trees (q, l) (List.mem_cons_self))
    · rw [digitH_ne l h e]; exact ih H.tail
theorem digitH_none {h : List TrL} {r : Nat} (H : ∀ t ∈ h, t.1 ≠ r) : digitH h r = [] := by
  induction h with
  | nil => rfl
  | cons t h ih =>
    obtain ⟨q, l⟩ := t
    rw [digitH_ne l h (H (q, l) List.mem_cons_self)]
    exact ih fun u hu => H u (List.mem_cons_of_mem _ hu)
theorem catTo_congr {x y : Nat → List (Int × Int)} : ∀ (n r : Nat), (∀ j, r ≤ j → x j = y j) → catTo x n r = catTo y n r
  | 0, _, _ => rfl
  | n + 1, r, h => by simp only [catTo]; rw [h r (Nat.le_refl _), catTo_congr n (r + 1) fun j hj => h j (by omega)]
theorem catTo_digit : ∀ (n r : Nat) (h : List TrL), h.Pairwise (fun a b => a.1 < b.1) → (∀ t ∈ h, r ≤ t.1 ∧ t.1 < r + n) → catTo (digitH h) n r = itemsH h
  | 0, r, h, _, hr => by
    cases h with
    | nil => rfl
    | cons t h => have := hr t List.mem_cons_self; omega
  | n + 1, r, h, hp, hr => by
    simp only [catTo]
    cases h with
    | nil =>
      rw [digitH_nil, List.nil_append, catTo_digit n (r + 1) [] List.Pairwise.nil (fun _ h => by cases h)]
    | cons t h =>
      obtain ⟨q, l⟩ := t
      have hq := hr (q, l) List.mem_cons_self
      have hp2 := List.pairwise_cons.1 hp
      by_cases e : q = r
      · subst e
        rw [digitH_eq, itemsH_cons, catTo_congr n (q + 1) (y := digitH h) fun j hj => digitH_ne l h (by omega)]
        rw [catTo_digit n (q + 1) h hp2.2 fun t ht => ⟨by have := hp2.1 t ht; simp only at this; omega, by have := (hr t (List.mem_cons_of_mem _ ht)).2; omega⟩]
      · have hlt : r < q := by have := hq.1; simp only at this; omega
        rw [digitH_none fun t ht => by
          rcases List.mem_cons.1 ht with rfl | m
          · exact e
          · have := hp2.1 t m; simp only at this; omega]
        rw [List.nil_append, catTo_digit n (r + 1) ((q, l) :: h) hp fun t ht => ⟨by
          rcases List.mem_cons.1 ht with rfl | m
          · exact hlt
          · have := hp2.1 t m; simp only at this; omega, by have := (hr t ht).2; omega⟩]
/-- Two heaps melded. -/
def meldH (a b : List TrL) : List TrL := meldTo (digitH a) (digitH b) 8 0 []
theorem rank_le {r k : Nat} {l : List (Int × Int)} (h : IsT r l) {m : Nat} (hl : l.length ≤ m) (hm : m < 2 ^ (k + 1)) : r ≤ k := by
  rcases Nat.lt_or_ge k r with q | q
  · have := Nat.pow_le_pow_right (show 0 < 2 by omega) q
    have h2 := h.len
    omega
  · exact q
theorem mem_items_len {h : List TrL} {t : TrL} (ht : t ∈ h) : t.2.length ≤ (itemsH h).length := by
  induction h with
  | nil => cases ht
  | cons u h ih =>
    rw [itemsH_cons, List.length_append]
    rcases List.mem_cons.1 ht with rfl | m
    · omega
    · have := ih m; omega
theorem meldH_good {a b : List TrL} (ha : IsH a) (hb : IsH b) (h : (itemsH a).length + (itemsH b).length ≤ 120) :
    IsH (meldH a b) ∧ (itemsH (meldH a b)).Perm (itemsH a ++ itemsH b) := by
  have key : ∀ {a : List TrL}, IsH a → (itemsH a).length ≤ 120 → ∀ t ∈ a, 0 ≤ t.1 ∧ t.1 < 0 + 8 := fun {a} ha hl t ht => by
    have h1 := rank_le (k := 6) (ha.trees t ht) (mem_items_len ht) (Nat.lt_of_le_of_lt hl (by decide))
    omega
  obtain ⟨h1, h2, h3, h4⟩ := meldTo_spec (digitH a) (digitH b) (digitH_te ha) (digitH_te hb) 8 0 [] (Or.inl rfl)
  rw [catTo_digit 8 0 a ha.rise (key ha (by omega)), catTo_digit 8 0 b hb.rise (key hb (by omega))] at h4
  have hc : carTo (digitH a) (digitH b) 8 0 [] = [] := by
    rcases h3 with e | h3
    · exact e
    · have e := h4.length_eq
      have l := h3.len
      simp only [List.length_append, List.nil_append] at e
      rw [l] at e
      simp at e
      omega
  rw [hc, List.append_nil, List.nil_append] at h4
  exact ⟨⟨fun t ht => (h1 t ht).1, h2⟩, h4⟩
/-- The trees below a root, by rising ranks. -/
def partsL (r : Nat) (l : List (Int × Int)) : Nat → List TrL
  | 0 => []
  | i + 1 => partsL r l i ++ [(i, (l.drop (1 + (2 ^ r - 2 ^ (i + 1)))).take (2 ^ i))]
theorem partsL_rank (r : Nat) (l : List (Int × Int)) : ∀ i, ∀ t ∈ partsL r l i, t.1 < i
  | 0, t, h => by cases h
  | i + 1, t, h => by
    rcases List.mem_append.1 h with q | q
    · have := partsL_rank r l i t q; omega
    · rw [List.mem_singleton.1 q]; exact Nat.lt_succ_self _
theorem partsL_isH {r : Nat} {l : List (Int × Int)} (h : IsT r l) : ∀ i, i ≤ r → IsH (partsL r l i)
  | 0, _ => IsH.nil
  | i + 1, hi => by
    have ih := partsL_isH h i (by omega)
    refine ⟨fun t ht => ?_, ?_⟩
    · rcases List.mem_append.1 ht with q | q
      · exact ih.trees t q
      · rw [List.mem_singleton.1 q]; exact h.sub (by omega)
    · show (partsL r l i ++ [_]).Pairwise _
      rw [List.pairwise_append]
      exact ⟨ih.rise, List.pairwise_singleton _ _, fun a ha b hb => by rw [List.mem_singleton.1 hb]; exact partsL_rank r l i a ha⟩
theorem partsL_items {r : Nat} {l : List (Int × Int)} (h : l.length = 2 ^ r) : ∀ i, i ≤ r → (itemsH (partsL r l i)).Perm (l.drop (1 + (2 ^ r - 2 ^ i)))
  | 0, _ => by
    have hp := two_pos r
    rw [List.drop_eq_nil_of_le (by rw [h]; simp; omega)]
    exact List.Perm.refl _
  | i + 1, hi => by
    have ih := partsL_items h i (by omega)
    have hs : 2 ^ (i + 1) = 2 ^ i + 2 ^ i := by rw [Nat.pow_succ]; omega
    have hle : 2 ^ (i + 1) ≤ 2 ^ r := Nat.pow_le_pow_right (by omega) hi
    show (itemsH (partsL r l i ++ [_])).Perm _
    rw [itemsH_append]
    refine (List.Perm.append_right _ ih).trans (List.perm_append_comm.trans ?_)
    have e : l.drop (1 + (2 ^ r - 2 ^ i)) = (l.drop (1 + (2 ^ r - 2 ^ (i + 1)))).drop (2 ^ i) := by
      rw [List.drop_drop]
      congr 1
      rw [hs] at hle ⊢
      generalize 2 ^ r = A at hle ⊢
      generalize 2 ^ i = B at hle ⊢
      omega
    rw [e]
    simp only [itemsH, List.flatMap_cons, List.flatMap_nil, List.append_nil]
    rw [List.take_append_drop]
theorem parts_all {r : Nat} {x : Int × Int} {l : List (Int × Int)} (h : IsT r (x :: l)) : (itemsH (partsL r (x :: l) r)).Perm l := by
  have := partsL_items h.len r (Nat.le_refl _)
  rw [Nat.sub_self] at this
  exact this
end Go.Proofs.YtmkjalpgeljnkaaDoor

/-
  The document's heaps of trees: powers of two, the place above, the size, two trees linked.
-/
namespace Go.Proofs.YtmkjalpgeljnkaaDoor
open Go.RowKit Go.Sort Go.Proofs

/-- A power of two, laid aside. -/
def twoN (n : Nat) : Nat := 2 ^ n
theorem twoN_eq (n : Nat) : twoN n = 2 ^ n := rfl
theorem twoN_succ (n : Nat) : twoN (n + 1) = twoN n * 2 := by unfold twoN; rw [Nat.pow_succ]
theorem twoN_pos (n : Nat) : 0 < twoN n := two_pos n
theorem twoN_small {n : Nat} (h : n ≤ 20) : twoN n ≤ 1048576 := Nat.le_trans (Nat.pow_le_pow_right (by omega) h) (by decide)
set_option maxHeartbeats 1000000 in
theorem pow2_any (n : Nat) (hn : n ≤ 20) (w : World) : Calls Tryd.prog 27 #[.int .i64 n] w fun e w' => e = .returned (.int .i64 (twoN n : Nat)) ∧ w' = w := by
  go_enter Tryd.func27, Tryd.ntmps27
  go_wp2
  go_loopg [3, 4] n (fun g vp vi wr => ∃ i q : Nat, vi = .int .i64 i ∧ vp = .int .i64 q ∧ i ≤ n ∧ n - i ≤ g ∧ Hid (q = twoN i) ∧ Hid (w = wr))
  case atStart => exact ⟨0, 1, rfl, rfl, Nat.zero_le _, by omega, rfl, rfl⟩
  case round =>
    obtain ⟨i, q, rfl, rfl, hin, hg, HQ, HW⟩ := hrel
    have hq : q ≤ 1048576 := by rw [HQ.out]; exact twoN_small (by omega)
    by_cases hlt : i < n
    · have hlz : (i : Int) < (n : Int) := by omega
      have hw : IntKind.i64.wrap ((q : Int) * 2) = (q : Int) * 2 := by rw [IntKind.wrap_i64]; omega
      have HQ' : Hid (q * 2 = twoN (i + 1)) := by show _ = _; rw [HQ.out, twoN_succ]
      clear HQ
      go_wp2
      go_roundg (n - (i + 1))
      case measure => omega
      case rel => exact ⟨i + 1, q * 2, by go_num, by go_num, by omega, Nat.le_refl _, HQ', HW⟩
    · have hlz : ¬ (i : Int) < (n : Int) := by omega
      obtain rfl : i = n := by omega
      go_wp2
      go_ret
      exact ⟨by rw [← HQ.out]; rfl, HW.out.symm⟩
end Go.Proofs.YtmkjalpgeljnkaaDoor

/-
  The document's heaps of trees: the place above the one at a place of a tree.
-/
namespace Go.Proofs.YtmkjalpgeljnkaaDoor
open Go.RowKit Go.Sort Go.Proofs

theorem aboveK_skip {r root from_ k : Nat} (h : from_ + twoN r ≤ k) : aboveK (r + 1) root from_ k = aboveK r root (from_ + twoN r) k := by
  unfold twoN at h ⊢; simp only [aboveK]; rw [if_pos h]
theorem aboveK_here {r root from_ : Nat} : aboveK (r + 1) root from_ from_ = root := by
  have := two_pos r
  simp only [aboveK]; rw [if_neg (by omega), if_pos trivial]
theorem aboveK_down {r root from_ k : Nat} (h : ¬ from_ + twoN r ≤ k) (e : k ≠ from_) : aboveK (r + 1) root from_ k = aboveK r from_ (from_ + 1) k := by
  unfold twoN at h; simp only [aboveK]; rw [if_neg h, if_neg e]
theorem twoN_one {r : Nat} (h : 1 < twoN r) : 1 ≤ r := by
  cases r with
  | zero => simp [twoN] at h
  | succ r => omega

set_option maxHeartbeats 4000000 in
theorem above_any (R k A : Nat) (hR : R ≤ 6) (hk : 1 ≤ k) (hk2 : k < twoN R) (HA : Hid (aboveK R 0 1 k = A)) (w : World) :
    Calls Tryd.prog 28 #[.int .i64 R, .int .i64 k] w fun e w' => e = .returned (.int .i64 A) ∧ w' = w := by
  have hkb : k ≤ 1048576 := by have := twoN_small (n := R) (by omega); omega
  go_enter Tryd.func28, Tryd.ntmps28
  go_wp2
  go_loopg [0, 5] R (fun g vr v5 wr => ∃ rank root : Nat, vr = .int .i64 rank ∧ v5 = .int .i64 root ∧ rank ≤ g ∧ rank ≤ 6 ∧ root < k ∧ k < root + twoN rank ∧ Hid (aboveK rank root (root + 1) k = A) ∧ Hid (w = wr))
  case atStart => exact ⟨R, 0, rfl, rfl, Nat.le_refl _, hR, by omega, by omega, HA, rfl⟩
  case round =>
    obtain ⟨rank, root, rfl, rfl, hg, hr6, h1, h2, HK, HW⟩ := hrel
    obtain ⟨r0, rfl⟩ : ∃ r0, rank = r0 + 1 := ⟨rank - 1, by have := twoN_one (r := rank) (by omega); omega⟩
    have hw1 : IntKind.i64.wrap ((root : Int) + 1) = (root : Int) + 1 := by rw [IntKind.wrap_i64]; omega
    have hw2 : IntKind.i64.wrap (((r0 + 1 : Nat) : Int) - 1) = (r0 : Int) := by rw [IntKind.wrap_i64]; omega
    go_wp2
    go_loopg [6, 7] r0 (fun g v6 v7 wq => ∃ fr r : Nat, v6 = .int .i64 fr ∧ v7 = .int .i64 r ∧ r ≤ g ∧ r ≤ r0 ∧ fr ≤ k ∧ k + 1 < fr + twoN (r + 1) ∧ Hid (aboveK (r + 1) root fr k = A) ∧ Hid (w = wq))
    case atStart => exact ⟨root + 1, r0, by go_num, rfl, Nat.le_refl _, Nat.le_refl _, by omega, by omega, HK, HW⟩
    case round =>
      obtain ⟨fr, r, rfl, rfl, hg2, hr0, h3, h4, HK2, HW2⟩ := hrel
      have cp := fun w => pow2_any r (by omega) w
      obtain ⟨q, hq⟩ : ∃ q, twoN r = q := ⟨_, rfl⟩
      have hqs := twoN_small (n := r) (by omega)
      have hqp := twoN_pos r
      rw [twoN_succ, hq] at h4
      rw [hq] at hqs hqp cp
      have HQ : Hid (twoN r = q) := hq
      clear hq
      have hw3 : IntKind.i64.wrap ((fr : Int) + (q : Int)) = (fr : Int) + (q : Int) := by rw [IntKind.wrap_i64]; omega
      by_cases hge : fr + q ≤ k
      · have hgz : (fr : Int) + (q : Int) ≤ (k : Int) := by omega
        obtain ⟨r1, rfl⟩ : ∃ r1, r = r1 + 1 := ⟨r - 1, by have := twoN_one (r := r) (by rw [HQ.out]; omega); omega⟩
        have hw4 : IntKind.i64.wrap (((r1 + 1 : Nat) : Int) - 1) = (r1 : Int) := by rw [IntKind.wrap_i64]; omega
        have HK3 : Hid (aboveK (r1 + 1) root (fr + q) k = A) := by
          show _ = _
          have e := aboveK_skip (r := r1 + 1) (root := root) (from_ := fr) (k := k) (by rw [HQ.out]; exact hge)
          rw [HQ.out] at e
          rw [← e]; exact HK2.out
        go_wp2_with (first | (go_at_call 27; refine (cp _).mono ?_; rintro e w' ⟨rfl, rfl⟩))
        go_roundg r1
        case measure => omega
        case rel => exact ⟨fr + q, r1, by go_num, rfl, Nat.le_refl _, by omega, hge, by rw [HQ.out]; omega, HK3, HW2⟩
      · have hgz : ¬ (fr : Int) + (q : Int) ≤ (k : Int) := by omega
        by_cases he : k = fr
        · subst he
          have HE : Hid (A = root) := by show _ = _; rw [← HK2.out]; exact aboveK_here
          go_wp2_with (first | (go_at_call 27; refine (cp _).mono ?_; rintro e w' ⟨rfl, rfl⟩))
          go_ret
          exact ⟨by rw [HE.out]; rfl, HW2.out.symm⟩
        · have heq : ((k : Int) == (fr : Int)) = false := beq_eq_false_iff_ne.2 (by omega)
          have HK3 : Hid (aboveK r fr (fr + 1) k = A) := by show _ = _; rw [← HK2.out, aboveK_down (by rw [HQ.out]; exact hge) he]
          go_wp2_with (first | (go_at_call 27; refine (cp _).mono ?_; rintro e w' ⟨rfl, rfl⟩))
          go_roundg r
          case measure => omega
          case rel => exact ⟨r, fr, rfl, rfl, Nat.le_refl _, by omega, by omega, by rw [HQ.out]; omega, HK3, HW2⟩
#print axioms above_any
end Go.Proofs.YtmkjalpgeljnkaaDoor
