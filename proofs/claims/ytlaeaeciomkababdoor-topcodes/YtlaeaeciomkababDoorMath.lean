/-
  Plain facts on arrays of items: what a stable sort keeps. Nothing of the program stands here.
-/
import Derived.Sort.LotA
import Derived.Sort.WalkA
namespace Go.Proofs.YtlaeaeciomkababDoor
open Go.Sort

/-- n exchanges at a distance. -/
def swapR (d : Array (Int × Int)) (a b : Nat) : Nat → Array (Int × Int)
  | 0 => d
  | n + 1 => swp (swapR d a b n) (a + n) (b + n)
theorem size_swapR (d : Array (Int × Int)) (a b : Nat) : ∀ n, (swapR d a b n).size = d.size
  | 0 => rfl
  | n + 1 => by rw [swapR, swp_size, size_swapR d a b n]

def swapIdx (a b n t : Nat) : Nat := if a ≤ t ∧ t < a + n then t - a + b else if b ≤ t ∧ t < b + n then t - b + a else t
theorem get_swapR (d : Array (Int × Int)) (a b : Nat) : ∀ n, a + n ≤ b → b + n ≤ d.size → ∀ t, (swapR d a b n)[t]! = d[swapIdx a b n t]!
  | 0, _, _, t => by simp [swapR, swapIdx]; split <;> (try split) <;> first | rfl | (exfalso; omega)
  | n + 1, h1, h2, t => by
    rw [swapR, swp_get _ (by rw [size_swapR]; omega) (by rw [size_swapR]; omega)]
    rw [get_swapR d a b n (by omega) (by omega), get_swapR d a b n (by omega) (by omega), get_swapR d a b n (by omega) (by omega)]
    unfold swapIdx
    repeat' split
    all_goals first | rfl | (congr 1; omega) | (exfalso; omega)

def rotIdx (a m b t : Nat) : Nat := if a ≤ t ∧ t < a + (b - m) then t - a + m else if a + (b - m) ≤ t ∧ t < b then t - (b - m) else t

/-- d' is d with two neighbouring stretches in each other's place. -/
def Rot (a m b : Nat) (d d' : Array (Int × Int)) : Prop := d'.size = d.size ∧ ∀ t, t < d.size → d'[t]! = d[rotIdx a m b t]!

theorem Rot.id_left (a b : Nat) (d : Array (Int × Int)) : Rot a a b d d := ⟨rfl, fun t _ => by
  unfold rotIdx; repeat' split
  all_goals first | rfl | (congr 1; omega)⟩
theorem Rot.id_right (a b : Nat) (d : Array (Int × Int)) : Rot a b b d d := ⟨rfl, fun t _ => by
  unfold rotIdx; repeat' split
  all_goals first | rfl | (congr 1; omega) | (exfalso; omega)⟩

/-- the end of a rotation: two stretches of one length -/
theorem rot_last (d : Array (Int × Int)) (m i : Nat) (hi : i ≤ m) (hm : m + i ≤ d.size) : Rot (m - i) m (m + i) d (swapR d (m - i) m i) := by
  refine ⟨size_swapR _ _ _ _, fun t _ => ?_⟩
  rw [get_swapR d _ _ _ (by omega) (by omega)]
  unfold swapIdx rotIdx
  repeat' split
  all_goals first | rfl | (congr 1; omega) | (exfalso; omega)
theorem rot_big (d d' : Array (Int × Int)) (m i j : Nat) (hji : j < i) (hi : i ≤ m) (hm : m + j ≤ d.size)
    (h : Rot (m - (i - j)) m (m + j) (swapR d (m - i) m j) d') : Rot (m - i) m (m + j) d d' := by
  obtain ⟨h1, h2⟩ := h
  rw [size_swapR] at h1 h2
  refine ⟨h1, fun t ht => ?_⟩
  rw [h2 t ht, get_swapR d _ _ _ (by omega) (by omega)]
  unfold swapIdx rotIdx
  repeat' split
  all_goals first | rfl | (congr 1; omega) | (exfalso; omega)
theorem rot_small (d d' : Array (Int × Int)) (m i j : Nat) (hij : i < j) (hi : i ≤ m) (hm : m + j ≤ d.size)
    (h : Rot (m - i) m (m + (j - i)) (swapR d (m - i) (m + j - i) i) d') : Rot (m - i) m (m + j) d d' := by
  obtain ⟨h1, h2⟩ := h
  rw [size_swapR] at h1 h2
  refine ⟨h1, fun t ht => ?_⟩
  rw [h2 t ht, get_swapR d _ _ _ (by omega) (by omega)]
  unfold swapIdx rotIdx
  repeat' split
  all_goals first | rfl | (congr 1; omega) | (exfalso; omega)

/-! ### what a stable sort keeps -/
/-- Of each key the same items, in their order. -/
def StEq (l l' : List (Int × Int)) : Prop := ∀ k : Int, l.filter (fun x => x.1 == k) = l'.filter (fun x => x.1 == k)

structure Mgd (a b : Nat) (d d' : Array (Int × Int)) : Prop where
  size : d'.size = d.size
  out : ∀ t, t < a ∨ b ≤ t → d'[t]! = d[t]!
  st : StEq d.toList d'.toList
  src : ∀ t, a ≤ t → t < b → ∃ s, a ≤ s ∧ s < b ∧ d'[t]! = d[s]!

theorem Mgd.refl (a b : Nat) (d : Array (Int × Int)) : Mgd a b d d := ⟨rfl, fun _ _ => rfl, fun _ => rfl, fun t h1 h2 => ⟨t, h1, h2, rfl⟩⟩
theorem Mgd.trans {a b : Nat} {d d' d'' : Array (Int × Int)} (h : Mgd a b d d') (g : Mgd a b d' d'') : Mgd a b d d'' :=
  ⟨g.size.trans h.size, fun t ht => (g.out t ht).trans (h.out t ht), fun k => (h.st k).trans (g.st k), fun t h1 h2 => by
    obtain ⟨s, s1, s2, e⟩ := g.src t h1 h2
    obtain ⟨u, u1, u2, f⟩ := h.src s s1 s2
    exact ⟨u, u1, u2, e.trans f⟩⟩
theorem Mgd.mono {a b a' b' : Nat} {d d' : Array (Int × Int)} (h : Mgd a b d d') (ha : a' ≤ a) (hb : b ≤ b') : Mgd a' b' d d' :=
  ⟨h.size, fun t ht => h.out t (by omega), h.st, fun t h1 h2 => by
    by_cases g : a ≤ t ∧ t < b
    · obtain ⟨s, s1, s2, e⟩ := h.src t g.1 g.2
      exact ⟨s, by omega, by omega, e⟩
    · exact ⟨t, h1, h2, h.out t (by omega)⟩⟩

theorem filter_nil_or {X Y : List (Int × Int)} (h : ∀ x ∈ X, ∀ y ∈ Y, x.1 ≠ y.1) (k : Int) : X.filter (fun x => x.1 == k) = [] ∨ Y.filter (fun x => x.1 == k) = [] := by
  by_cases hX : X.filter (fun x => x.1 == k) = []
  · exact Or.inl hX
  · right
    rw [List.filter_eq_nil_iff]
    intro y hy
    simp only [beq_iff_eq]
    intro e
    obtain ⟨x, hx⟩ := List.exists_mem_of_ne_nil _ hX
    rw [List.mem_filter] at hx
    have h1 : x.1 = k := by simpa using hx.2
    exact h x hx.1 y hy (h1.trans e.symm)

theorem getD_toList (d : Array (Int × Int)) (t : Nat) (h : t < d.toList.length) : d.toList[t] = d[t]! := by
  have h' : t < d.size := by simpa using h
  rw [getElem!_pos d t h', Array.getElem_toList]

theorem Mgd.rot {a m b : Nat} {d d' : Array (Int × Int)} (h : Rot a m b d d') (ham : a ≤ m) (hmb : m ≤ b) (hb : b ≤ d.size)
    (hne : ∀ i j, a ≤ i → i < m → m ≤ j → j < b → d[i]!.1 ≠ d[j]!.1) : Mgd a b d d' := by
  obtain ⟨hs, hg⟩ := h
  refine ⟨hs, fun t ht => ?_, ?_, fun t h1 h2 => ?_⟩
  · by_cases hlt : t < d.size
    · rw [hg t hlt]; congr 1; unfold rotIdx; repeat' split
      all_goals first | rfl | omega
    · rw [getElem!_neg d t hlt, getElem!_neg d' t (by rw [hs]; exact hlt)]
  · obtain ⟨P, hP⟩ : ∃ P, P = d.toList.take a := ⟨_, rfl⟩
    obtain ⟨X, hX⟩ : ∃ X, X = (d.toList.drop a).take (m - a) := ⟨_, rfl⟩
    obtain ⟨Y, hY⟩ : ∃ Y, Y = (d.toList.drop m).take (b - m) := ⟨_, rfl⟩
    obtain ⟨Z, hZ⟩ : ∃ Z, Z = d.toList.drop b := ⟨_, rfl⟩
    have lP : P.length = a := by rw [hP]; simp; omega
    have lX : X.length = m - a := by rw [hX]; simp; omega
    have lY : Y.length = b - m := by rw [hY]; simp; omega
    have lZ : Z.length = d.size - b := by rw [hZ]; simp
    have e1 : d.toList = P ++ (X ++ (Y ++ Z)) := by
      have q1 : d.toList.drop m = Y ++ Z := by
        rw [hY, hZ, show d.toList.drop b = (d.toList.drop m).drop (b - m) by rw [List.drop_drop]; congr 1; omega]; exact (List.take_append_drop _ _).symm
      have q2 : d.toList.drop a = X ++ (Y ++ Z) := by
        rw [← q1, hX, show d.toList.drop m = (d.toList.drop a).drop (m - a) by rw [List.drop_drop]; congr 1; omega]; exact (List.take_append_drop _ _).symm
      rw [← q2, hP]; exact (List.take_append_drop _ _).symm
    have gX : ∀ t (ht : t < X.length), X[t] = d[a + t]! := fun t ht => by
      subst hX; rw [List.getElem_take, List.getElem_drop, getD_toList]
    have gY : ∀ t (ht : t < Y.length), Y[t] = d[m + t]! := fun t ht => by
      subst hY; rw [List.getElem_take, List.getElem_drop, getD_toList]
    have gP : ∀ t (ht : t < P.length), P[t] = d[t]! := fun t ht => by
      subst hP; rw [List.getElem_take, getD_toList]
    have gZ : ∀ t (ht : t < Z.length), Z[t] = d[b + t]! := fun t ht => by
      subst hZ; rw [List.getElem_drop, getD_toList]
    have e2 : d'.toList = P ++ (Y ++ (X ++ Z)) := by
      refine List.ext_getElem (by simp; omega) fun t h1 h2 => ?_
      rw [getD_toList, hg t (by simpa [hs] using h1)]
      unfold rotIdx
      have hts : t < d.size := by simpa [hs] using h1
      by_cases c1 : t < a
      · rw [if_neg (by omega), if_neg (by omega), List.getElem_append_left (by omega), gP]
      · rw [List.getElem_append_right (by omega)]
        by_cases c2 : t < a + (b - m)
        · rw [if_pos (by omega), List.getElem_append_left (by omega), gY]; congr 1; omega
        · rw [if_neg (by omega), List.getElem_append_right (by omega)]
          by_cases c3 : t < b
          · rw [if_pos (by omega), List.getElem_append_left (by omega), gX]; congr 1; omega
          · rw [if_neg (by omega), List.getElem_append_right (by omega), gZ]; congr 1; omega
    intro k
    rw [e1, e2]
    simp only [List.filter_append]
    have hXY : ∀ x ∈ X, ∀ y ∈ Y, x.1 ≠ y.1 := fun x hx y hy => by
      obtain ⟨i, hi, rfl⟩ := List.getElem_of_mem hx
      obtain ⟨j, hj, rfl⟩ := List.getElem_of_mem hy
      rw [gX, gY]
      exact hne _ _ (by omega) (by omega) (by omega) (by omega)
    rcases filter_nil_or hXY k with q | q <;> rw [q] <;> simp
  · refine ⟨rotIdx a m b t, ?_, ?_, hg t (by omega)⟩
    all_goals (unfold rotIdx; repeat' split)
    all_goals omega

/-- Two neighbours in each other's place. -/
theorem rot_swp (d : Array (Int × Int)) (i : Nat) (h : i + 1 < d.size) : Rot i (i + 1) (i + 2) d (swp d i (i + 1)) := by
  refine ⟨swp_size _ _ _, fun t _ => ?_⟩
  rw [swp_get d (by omega) h]
  unfold rotIdx
  repeat' split
  all_goals first | rfl | (congr 1; omega) | (exfalso; omega)
theorem rot_swp' (d : Array (Int × Int)) (i : Nat) (h : i + 1 < d.size) : Rot i (i + 1) (i + 2) d (swp d (i + 1) i) := by
  refine ⟨swp_size _ _ _, fun t _ => ?_⟩
  rw [swp_get d h (by omega)]
  unfold rotIdx
  repeat' split
  all_goals first | rfl | (congr 1; omega) | (exfalso; omega)
theorem rot_up (a k : Nat) (d dk : Array (Int × Int)) (h : Rot a (a + 1) (k + 1) d dk) (hak : a ≤ k) (hk : k + 1 < d.size) : Rot a (a + 1) (k + 2) d (swp dk k (k + 1)) := by
  obtain ⟨h1, h2⟩ := h
  refine ⟨by rw [swp_size, h1], fun t ht => ?_⟩
  rw [swp_get dk (by omega) (by omega), h2 k (by omega), h2 (k + 1) (by omega), h2 t ht]
  unfold rotIdx
  repeat' split
  all_goals first | rfl | (congr 1; omega) | (exfalso; omega)
theorem rot_down (m k : Nat) (d dk : Array (Int × Int)) (h : Rot (k + 1) m (m + 1) d dk) (hk : k + 1 ≤ m) (hm : m < d.size) : Rot k m (m + 1) d (swp dk (k + 1) k) := by
  obtain ⟨h1, h2⟩ := h
  refine ⟨by rw [swp_size, h1], fun t ht => ?_⟩
  rw [swp_get dk (by omega) (by omega), h2 k (by omega), h2 (k + 1) (by omega), h2 t ht]
  unfold rotIdx
  repeat' split
  all_goals first | rfl | (congr 1; omega) | (exfalso; omega)

def Srt (a b : Nat) (d : Array (Int × Int)) : Prop := ∀ i j, a ≤ i → i ≤ j → j < b → d[i]!.1 ≤ d[j]!.1
theorem Srt.sub {a b a' b' : Nat} {d : Array (Int × Int)} (h : Srt a b d) (ha : a ≤ a') (hb : b' ≤ b) : Srt a' b' d := fun i j h1 h2 h3 => h i j (by omega) h2 (by omega)
theorem Srt.join {a m b : Nat} {d : Array (Int × Int)} (h : Srt a m d) (g : Srt m b d) (c : ∀ i j, a ≤ i → i < m → m ≤ j → j < b → d[i]!.1 ≤ d[j]!.1) : Srt a b d := fun i j h1 h2 h3 => by
  by_cases q1 : j < m
  · exact h i j h1 h2 q1
  · by_cases q2 : m ≤ i
    · exact g i j q2 h2 h3
    · exact c i j h1 (by omega) (by omega) h3
theorem Srt.congr {a b : Nat} {d d' : Array (Int × Int)} (h : Srt a b d) (e : ∀ t, a ≤ t → t < b → d'[t]! = d[t]!) : Srt a b d' := fun i j h1 h2 h3 => by
  rw [e i h1 (by omega), e j (by omega) h3]; exact h i j h1 h2 h3
theorem Srt.shift {a b a' : Nat} {d d' : Array (Int × Int)} {n : Nat} (h : Srt a b d) (hn : a + n ≤ b) (e : ∀ t, t < n → d'[a' + t]! = d[a + t]!) : Srt a' (a' + n) d' := fun i j h1 h2 h3 => by
  obtain ⟨u, rfl⟩ : ∃ u, i = a' + u := ⟨i - a', by omega⟩
  obtain ⟨v, rfl⟩ : ∃ v, j = a' + v := ⟨j - a', by omega⟩
  rw [e u (by omega), e v (by omega)]; exact h _ _ (by omega) (by omega) (by omega)

/-- The heart of the merge: where the halves are cut, and what a rotation makes of them. -/
theorem sym_cut {a m b s : Nat} {d e : Array (Int × Int)} (ham : a < m) (hmb : m < b) (hb : b ≤ d.size) (h1 : Srt a m d) (h2 : Srt m b d)
    {mid s0 r0 : Nat} (hmid : mid = (a + b) / 2) (hs0 : s0 = if mid < m then mid + m - b else a) (hr0 : r0 = if mid < m then mid else m)
    (hs : s0 ≤ s) (hr : s ≤ r0) (lo : ∀ c, s0 ≤ c → c < s → d[c]!.1 ≤ d[mid + m - 1 - c]!.1) (hi : ∀ c, s ≤ c → c < r0 → d[mid + m - 1 - c]!.1 < d[c]!.1)
    (hrot : Rot s m (mid + m - s) d e) :
    Mgd a b d e ∧ a ≤ s ∧ s ≤ mid ∧ mid ≤ mid + m - s ∧ mid + m - s ≤ b ∧ Srt a s e ∧ Srt s mid e ∧ Srt mid (mid + m - s) e ∧ Srt (mid + m - s) b e ∧
      ∀ i j, a ≤ i → i < mid → mid ≤ j → j < b → e[i]!.1 ≤ e[j]!.1 := by
  have hsm : s ≤ m ∧ a ≤ s ∧ s ≤ mid ∧ mid + m - s ≤ b ∧ a < mid ∧ mid < b ∧ (s = r0 → s = m ∨ mid + m - s = m) ∧ (s = s0 → s = a ∨ mid + m - s = b) := by
    by_cases q : mid < m
    · rw [if_pos q] at hs0 hr0; refine ⟨?_, ?_, ?_, ?_, ?_, ?_, ?_, ?_⟩ <;> omega
    · rw [if_neg q] at hs0 hr0; refine ⟨?_, ?_, ?_, ?_, ?_, ?_, ?_, ?_⟩ <;> omega
  obtain ⟨k1, k2, k3, k4, k5, k6, k7, k8⟩ := hsm
  have cross : ∀ i j, s ≤ i → i < m → m ≤ j → j < mid + m - s → d[j]!.1 < d[i]!.1 := fun i j c1 c2 c3 c4 => by
    have hlt : s < r0 := by omega
    have q1 := hi s (Nat.le_refl _) hlt
    have q2 := h2 j (mid + m - 1 - s) c3 (by omega) (by omega)
    have q3 := h1 s i k2 c1 c2
    omega
  have cross2 : ∀ i j, a ≤ i → i < s → mid + m - s ≤ j → j < b → d[i]!.1 ≤ d[j]!.1 := fun i j c1 c2 c3 c4 => by
    have hlt : s0 < s := by omega
    have q1 := lo (s - 1) (by omega) (by omega)
    rw [show mid + m - 1 - (s - 1) = mid + m - s by omega] at q1
    have q2 := h2 (mid + m - s) j (by omega) c3 c4
    have q3 := h1 i (s - 1) c1 (by omega) (by omega)
    omega
  obtain ⟨r1, r2⟩ := hrot
  have g1 : ∀ t, t < s → e[t]! = d[t]! := fun t ht => by
    rw [r2 t (by omega)]; congr 1; unfold rotIdx; rw [if_neg (by omega), if_neg (by omega)]
  have g2 : ∀ t, t < mid - s → e[s + t]! = d[m + t]! := fun t ht => by
    rw [r2 (s + t) (by omega)]; congr 1; unfold rotIdx; rw [if_pos (by omega)]; omega
  have g3 : ∀ t, t < m - s → e[mid + t]! = d[s + t]! := fun t ht => by
    rw [r2 (mid + t) (by omega)]; congr 1; unfold rotIdx; rw [if_neg (by omega), if_pos (by omega)]; omega
  have g4 : ∀ t, mid + m - s ≤ t → t < b → e[t]! = d[t]! := fun t ht ht' => by
    rw [r2 t (by omega)]; congr 1; unfold rotIdx; rw [if_neg (by omega), if_neg (by omega)]
  refine ⟨(Mgd.rot ⟨r1, r2⟩ k1 (by omega) (by omega) (fun i j c1 c2 c3 c4 => by have := cross i j c1 c2 c3 c4; omega)).mono k2 k4, k2, k3, by omega, k4, ?_, ?_, ?_, ?_, ?_⟩
  · exact (h1.sub (Nat.le_refl _) k1).congr fun t _ ht => g1 t ht
  · have := h2.shift (n := mid - s) (a' := s) (by omega) g2
    rwa [show s + (mid - s) = mid by omega] at this
  · have := (h1.sub k2 (Nat.le_refl _)).shift (n := m - s) (a' := mid) (by omega) g3
    rwa [show mid + (m - s) = mid + m - s by omega] at this
  · exact (h2.sub (by omega) (Nat.le_refl _)).congr fun t ht ht' => g4 t ht ht'
  · intro i j c1 c2 c3 c4
    by_cases qi : i < s
    · rw [g1 i qi]
      by_cases qj : j < mid + m - s
      · obtain ⟨v, rfl⟩ : ∃ v, j = mid + v := ⟨j - mid, by omega⟩
        rw [g3 v (by omega)]; exact h1 _ _ c1 (by omega) (by omega)
      · rw [g4 j (by omega) c4]; exact cross2 i j c1 qi (by omega) c4
    · obtain ⟨u, rfl⟩ : ∃ u, i = s + u := ⟨i - s, by omega⟩
      rw [g2 u (by omega)]
      by_cases qj : j < mid + m - s
      · obtain ⟨v, rfl⟩ : ∃ v, j = mid + v := ⟨j - mid, by omega⟩
        rw [g3 v (by omega)]
        have := cross (s + v) (m + u) (by omega) (by omega) (by omega) (by omega)
        omega
      · rw [g4 j (by omega) c4]; exact h2 _ _ (by omega) (by omega) c4

/-- One item put into its place among those behind it. -/
theorem sym_left {a b i : Nat} {d e : Array (Int × Int)} (hi : a + 1 ≤ i) (hb : b ≤ d.size) (hs : Srt (a + 1) b d) (lo : ∀ t, a + 1 ≤ t → t < i → d[t]!.1 < d[a]!.1)
    (hi' : ∀ t, i ≤ t → t < b → d[a]!.1 ≤ d[t]!.1) (hib : i ≤ b) (hr : Rot a (a + 1) i d e) : Mgd a b d e ∧ Srt a b e := by
  refine ⟨(Mgd.rot hr (by omega) hi (by omega) (fun u v c1 c2 c3 c4 => ?_)).mono (Nat.le_refl _) hib, ?_⟩
  · obtain rfl : u = a := by omega
    have := lo v c3 c4; omega
  · obtain ⟨_, r2⟩ := hr
    have g1 : ∀ t, t < i - (a + 1) → e[a + t]! = d[a + 1 + t]! := fun t ht => by
      rw [r2 _ (by omega)]; congr 1; unfold rotIdx; rw [if_pos (by omega)]; omega
    have g2 : e[i - 1]! = d[a]! := by
      rw [r2 _ (by omega)]; congr 1; unfold rotIdx; rw [if_neg (by omega), if_pos (by omega)]; omega
    have g3 : ∀ t, i ≤ t → t < b → e[t]! = d[t]! := fun t ht ht' => by
      rw [r2 _ (by omega)]; congr 1; unfold rotIdx; rw [if_neg (by omega), if_neg (by omega)]
    have s1 := hs.shift (n := i - (a + 1)) (a' := a) (by omega) g1
    rw [show a + (i - (a + 1)) = i - 1 by omega] at s1
    refine s1.join (Srt.join (m := i) ?_ ((hs.sub (by omega) (Nat.le_refl _)).congr g3) ?_) ?_
    · intro u v c1 c2 c3
      obtain rfl : u = i - 1 := by omega
      obtain rfl : v = i - 1 := by omega
      exact Int.le_refl _
    · intro u v c1 c2 c3 c4
      obtain rfl : u = i - 1 := by omega
      rw [g2, g3 v c3 c4]
      have := hi' v c3 c4; omega
    · intro u v c1 c2 c3 c4
      obtain ⟨p, rfl⟩ : ∃ p, u = a + p := ⟨u - a, by omega⟩
      rw [g1 p (by omega)]
      have q := lo (a + 1 + p) (by omega) (by omega)
      by_cases c : v < i
      · obtain rfl : v = i - 1 := by omega
        rw [g2]; omega
      · rw [g3 v (by omega) c4]; have := hi' v (by omega) c4; omega

/-- .. among those ahead of it. -/
theorem sym_right {a m i : Nat} {d e : Array (Int × Int)} (hai : a ≤ i) (him : i ≤ m) (hb : m < d.size) (hs : Srt a m d) (lo : ∀ t, a ≤ t → t < i → d[t]!.1 ≤ d[m]!.1)
    (hi' : ∀ t, i ≤ t → t < m → d[m]!.1 < d[t]!.1) (hr : Rot i m (m + 1) d e) : Mgd a (m + 1) d e ∧ Srt a (m + 1) e := by
  refine ⟨(Mgd.rot hr him (by omega) (by omega) (fun u v c1 c2 c3 c4 => ?_)).mono hai (Nat.le_refl _), ?_⟩
  · obtain rfl : v = m := by omega
    have := hi' u c1 c2; omega
  · obtain ⟨_, r2⟩ := hr
    have g1 : ∀ t, t < i → e[t]! = d[t]! := fun t ht => by
      rw [r2 _ (by omega)]; congr 1; unfold rotIdx; rw [if_neg (by omega), if_neg (by omega)]
    have g2 : e[i]! = d[m]! := by
      rw [r2 _ (by omega)]; congr 1; unfold rotIdx; rw [if_pos (by omega)]; omega
    have g3 : ∀ t, t < m - i → e[i + 1 + t]! = d[i + t]! := fun t ht => by
      rw [r2 _ (by omega)]; congr 1; unfold rotIdx; rw [if_neg (by omega), if_pos (by omega)]; omega
    have s3 := (hs.sub hai (Nat.le_refl _)).shift (n := m - i) (a' := i + 1) (by omega) g3
    rw [show i + 1 + (m - i) = m + 1 by omega] at s3
    refine Srt.join (m := i) ((hs.sub (Nat.le_refl _) him).congr fun t _ ht => g1 t ht) (Srt.join (m := i + 1) ?_ s3 ?_) ?_
    · intro u v c1 c2 c3
      obtain rfl : u = i := by omega
      obtain rfl : v = u := by omega
      exact Int.le_refl _
    · intro u v c1 c2 c3 c4
      obtain rfl : u = i := by omega
      obtain ⟨p, rfl⟩ : ∃ p, v = u + 1 + p := ⟨v - (u + 1), by omega⟩
      rw [g2, g3 p (by omega)]
      have := hi' (u + p) (by omega) (by omega); omega
    · intro u v c1 c2 c3 c4
      rw [g1 u c2]
      have q := lo u c1 c2
      by_cases c : v = i
      · rw [c, g2]; omega
      · obtain ⟨p, rfl⟩ : ∃ p, v = i + 1 + p := ⟨v - (i + 1), by omega⟩
        rw [g3 p (by omega)]
        exact hs u (i + p) c1 (by omega) (by omega)

theorem sym_fin {a mid b : Nat} {d d1 d2 d3 : Array (Int × Int)} (ha : a ≤ mid) (hb : mid ≤ b) (h1 : Mgd a b d d1) (h2 : Mgd a mid d1 d2) (s2 : Srt a mid d2) (h3 : Mgd mid b d2 d3) (s3 : Srt mid b d3)
    (c : ∀ i j, a ≤ i → i < mid → mid ≤ j → j < b → d1[i]!.1 ≤ d1[j]!.1) : Mgd a b d d3 ∧ Srt a b d3 := by
  refine ⟨(h1.trans (h2.mono (Nat.le_refl _) hb)).trans (h3.mono ha (Nat.le_refl _)), Srt.join (s2.congr fun t _ ht => h3.out t (Or.inl ht)) s3 fun i j c1 c2 c3 c4 => ?_⟩
  rw [h3.out i (Or.inl c2)]
  obtain ⟨u, u1, u2, e1⟩ := h2.src i c1 c2
  obtain ⟨v, v1, v2, e2⟩ := h3.src j c3 c4
  rw [e1, e2, h2.out v (Or.inr v1)]
  exact c u v u1 u2 v1 v2

/-! ### insertion -/
def ltK (x y : Int × Int) : Bool := decide (x.1 < y.1)
theorem swo_ltK : SWO ltK := ⟨fun x => by simp [ltK], fun x y z h1 h2 => by simp [ltK] at *; omega, fun x y z h1 h2 => by simp [ltK] at *; omega⟩
theorem mgd_insInner (a b : Nat) : ∀ (j : Nat) (d : Array (Int × Int)), a ≤ j → j < b → b ≤ d.size → Mgd a b d (insInner ltK a j d)
  | 0, d, _, _, _ => Mgd.refl _ _ _
  | j + 1, d, h1, h2, h3 => by
    by_cases c : a < j + 1 ∧ ltK d[j + 1]! d[j]! = true
    · have e := insInner_go (lt := ltK) a (j + 1) d c.1 c.2
      simp only [Nat.add_sub_cancel] at e
      rw [e]
      have hk : d[j + 1]!.1 < d[j]!.1 := by simpa [ltK] using c.2
      refine Mgd.trans ((Mgd.rot (rot_swp' d j (by omega)) (by omega) (by omega) (by omega) ?_).mono (by omega) (by omega)) (mgd_insInner a b j _ (by omega) (by omega) (by rw [swp_size]; exact h3))
      intro u v c1 c2 c3 c4
      obtain rfl : u = j := by omega
      obtain rfl : v = u + 1 := by omega
      omega
    · rw [insInner_stop (lt := ltK) a (j + 1) d (by
        rcases Nat.lt_or_ge a (j + 1) with q | q
        · right; rw [Bool.eq_false_iff]; exact fun h => c ⟨q, h⟩
        · exact Or.inl q)]
      exact Mgd.refl _ _ _
theorem mgd_insOuter (a b : Nat) : ∀ (n i : Nat) (d : Array (Int × Int)), b - i ≤ n → a < i → b ≤ d.size → Mgd a b d (insOuter ltK a b i d)
  | n, i, d, hn, hi, hb => by
    by_cases h : i < b
    · match n, hn with
      | 0, hn => omega
      | n + 1, hn =>
        rw [insOuter_go (lt := ltK) _ _ _ _ h]
        have q := mgd_insInner a b i d (by omega) h hb
        exact q.trans (mgd_insOuter a b n (i + 1) _ (by omega) (by omega) (by rw [q.size]; exact hb))
    · rw [insOuter_stop (lt := ltK) _ _ _ _ h]; exact Mgd.refl _ _ _
theorem insertion_good (d : Array (Int × Int)) (a b : Nat) (hab : a ≤ b) (hb : b ≤ d.size) : Mgd a b d (insertionSort ltK d a b) ∧ Srt a b (insertionSort ltK d a b) := by
  refine ⟨mgd_insOuter a b _ _ d (Nat.le_refl _) (by omega) hb, ?_⟩
  have := (insertionSort_holds swo_ltK d a b hab hb).2
  intro i j h1 h2 h3
  rcases Nat.lt_or_ge i j with q | q
  · have := this i j h1 q h3
    simp [ltK] at this; exact this
  · obtain rfl : i = j := by omega
    exact Int.le_refl _
end Go.Proofs.YtlaeaeciomkababDoor
