/-
  Plain facts of runs: of what is held the least goes out first, and the number that comes takes its place, for the same run or the next one.
-/
import Derived.WalkKit
namespace Go.Proofs.YtlaeaeciomkababDoor
open Go.RowKit Go.Proofs

/-- What is held: for which run, and the number. -/
abbrev Hd := Nat × Int
/-- What goes out first. -/
def ltH (a b : Hd) : Prop := a.1 < b.1 ∨ (a.1 = b.1 ∧ a.2 < b.2)
def leH (a b : Hd) : Prop := ¬ ltH b a
theorem leH_iff (a b : Hd) : leH a b ↔ a.1 < b.1 ∨ (a.1 = b.1 ∧ a.2 ≤ b.2) := by unfold leH ltH; omega
theorem leH_refl (a : Hd) : leH a a := by rw [leH_iff]; omega
theorem leH_trans {a b c : Hd} (h1 : leH a b) (h2 : leH b c) : leH a c := by rw [leH_iff] at *; omega
theorem leH_anti {a b : Hd} (h1 : leH a b) (h2 : leH b a) : a = b := by
  rw [leH_iff] at *
  exact Prod.ext (by omega) (by omega)
theorem leH_run {a b : Hd} (h : leH a b) : a.1 ≤ b.1 := by rw [leH_iff] at h; omega
/-- The number that comes, where x has gone out. -/
def newH (x : Hd) (c : Int) : Hd := if c < x.2 then (x.1 + 1, c) else (x.1, c)
theorem newH_less {x : Hd} {c : Int} (h : c < x.2) : newH x c = (x.1 + 1, c) := by unfold newH; rw [if_pos h]
theorem newH_more {x : Hd} {c : Int} (h : ¬ c < x.2) : newH x c = (x.1, c) := by unfold newH; rw [if_neg h]
theorem newH_le (x : Hd) (c : Int) : leH x (newH x c) := by
  by_cases h : c < x.2
  · rw [newH_less h, leH_iff]; exact Or.inl (Nat.lt_succ_self _)
  · rw [newH_more h, leH_iff]; exact Or.inr ⟨rfl, by show x.2 ≤ c; omega⟩
theorem newH_snd (x : Hd) (c : Int) : (newH x c).2 = c := by
  by_cases h : c < x.2
  · rw [newH_less h]
  · rw [newH_more h]

/-- x is the least of what is held. -/
def FirstH (S : List Hd) (x : Hd) : Prop := x ∈ S ∧ ∀ y ∈ S, leH x y
theorem FirstH.unique {S : List Hd} {x y : Hd} (h1 : FirstH S x) (h2 : FirstH S y) : x = y := leH_anti (h1.2 y h2.1) (h2.2 x h1.1)
theorem FirstH.perm {S T : List Hd} {x : Hd} (h : FirstH S x) (p : S.Perm T) : FirstH T x := ⟨p.subset h.1, fun y hy => h.2 y (p.symm.subset hy)⟩
/-- The least of what is held. -/
def minH : List Hd → Hd
  | [] => (0, 0)
  | [a] => a
  | a :: b :: r => if (minH (b :: r)).1 < a.1 ∨ ((minH (b :: r)).1 = a.1 ∧ (minH (b :: r)).2 < a.2) then minH (b :: r) else a
theorem minH_first : ∀ (S : List Hd), S ≠ [] → FirstH S (minH S)
  | [], h => absurd rfl h
  | [a], _ => ⟨List.mem_singleton.2 rfl, fun y hy => by rw [List.mem_singleton.1 hy]; exact leH_refl a⟩
  | a :: b :: r, _ => by
    obtain ⟨h1, h2⟩ := minH_first (b :: r) (List.cons_ne_nil _ _)
    simp only [minH]
    by_cases h : (minH (b :: r)).1 < a.1 ∨ ((minH (b :: r)).1 = a.1 ∧ (minH (b :: r)).2 < a.2)
    · rw [if_pos h]
      refine ⟨List.mem_cons_of_mem _ h1, fun y hy => ?_⟩
      rcases List.mem_cons.1 hy with rfl | z
      · rw [leH_iff]; omega
      · exact h2 y z
    · rw [if_neg h]
      refine ⟨List.mem_cons_self, fun y hy => ?_⟩
      rcases List.mem_cons.1 hy with rfl | z
      · exact leH_refl _
      · exact leH_trans (show leH a (minH (b :: r)) by rw [leH_iff]; omega) (h2 y z)

/-- What goes out, in at most so many steps. -/
def outF (room : Nat) : Nat → List Int → List Hd → List Hd
  | 0, _, _ => []
  | f + 1, c :: r, S => if S.length < room then outF room f r (S ++ [(0, c)]) else minH S :: outF room f r (newH (minH S) c :: S.erase (minH S))
  | f + 1, [], S => if S = [] then [] else minH S :: outF room f [] (S.erase (minH S))
theorem perm_min {S T : List Hd} (p : S.Perm T) : minH S = minH T := by
  by_cases h : S = []
  · subst h
    rw [List.nil_perm.1 p]
  · have h2 : T ≠ [] := fun e => h (by rw [e] at p; exact List.perm_nil.1 p)
    exact ((minH_first S h).perm p).unique (minH_first T h2)
theorem outF_perm (room : Nat) : ∀ (f : Nat) (rest : List Int) (S T : List Hd), S.Perm T → outF room f rest S = outF room f rest T
  | 0, _, _, _, _ => rfl
  | f + 1, c :: r, S, T, p => by
    simp only [outF]
    rw [p.length_eq, perm_min p]
    by_cases h : T.length < room
    · rw [if_pos h, if_pos h]; exact outF_perm room f r _ _ (p.append_right _)
    · rw [if_neg h, if_neg h]; exact congrArg _ (outF_perm room f r _ _ ((p.erase _).cons _))
  | f + 1, [], S, T, p => by
    simp only [outF]
    by_cases h : S = []
    · subst h; rw [List.nil_perm.1 p]
    · have h2 : T ≠ [] := fun e => h (by rw [e] at p; exact List.perm_nil.1 p)
      rw [if_neg h, if_neg h2, perm_min p]
      exact congrArg _ (outF_perm room f [] _ _ (p.erase _))
theorem erase_len {S : List Hd} (h : S ≠ []) : (S.erase (minH S)).length + 1 = S.length := by
  rw [List.length_erase_of_mem (minH_first S h).1]
  have : 0 < S.length := List.length_pos_iff.2 h
  omega
theorem outF_any (room : Nat) (hr : 1 ≤ room) : ∀ (f g : Nat) (rest : List Int) (S : List Hd), 2 * rest.length + S.length ≤ f → 2 * rest.length + S.length ≤ g → outF room f rest S = outF room g rest S
  | 0, 0, _, _, _, _ => rfl
  | 0, g + 1, [], S, hf, _ => by
    have : S = [] := List.eq_nil_of_length_eq_zero (by simp at hf; exact by rw [hf]; rfl)
    simp [outF, this]
  | 0, g + 1, c :: r, S, hf, _ => by simp at hf
  | f + 1, 0, [], S, _, hg => by
    have : S = [] := List.eq_nil_of_length_eq_zero (by simp at hg; exact by rw [hg]; rfl)
    simp [outF, this]
  | f + 1, 0, c :: r, S, _, hg => by simp at hg
  | f + 1, g + 1, c :: r, S, hf, hg => by
    simp only [List.length_cons] at hf hg
    simp only [outF]
    by_cases h : S.length < room
    · rw [if_pos h, if_pos h]
      exact outF_any room hr f g r _ (by simp; omega) (by simp; omega)
    · rw [if_neg h, if_neg h]
      have hne : S ≠ [] := fun e => h (by rw [e]; simp; omega)
      have := erase_len hne
      exact congrArg _ (outF_any room hr f g r _ (by simp; omega) (by simp; omega))
  | f + 1, g + 1, [], S, hf, hg => by
    simp only [outF]
    by_cases h : S = []
    · rw [if_pos h, if_pos h]
    · rw [if_neg h, if_neg h]
      have := erase_len h
      simp only [List.length_nil] at hf hg
      exact congrArg _ (outF_any room hr f g [] _ (by simp; omega) (by simp; omega))
/-- What goes out, of the numbers that are to come, and of what is held. -/
def outR (room : Nat) (rest : List Int) (S : List Hd) : List Hd := outF room (2 * rest.length + S.length) rest S
theorem outR_perm (room : Nat) (rest : List Int) {S T : List Hd} (p : S.Perm T) : outR room rest S = outR room rest T := by
  unfold outR
  rw [p.length_eq]
  exact outF_perm room _ rest S T p
theorem outR_end (room : Nat) : outR room [] [] = [] := rfl
theorem outR_hold {room : Nat} (hr : 1 ≤ room) {c : Int} {r : List Int} {S : List Hd} (h : S.length < room) : outR room (c :: r) S = outR room r (S ++ [(0, c)]) := by
  unfold outR
  rw [show 2 * (c :: r).length + S.length = (2 * r.length + S.length + 1) + 1 by simp; omega]
  simp only [outF]
  rw [if_pos h]
  exact outF_any room hr _ _ r _ (by simp; omega) (Nat.le_refl _)
theorem outR_swap {room : Nat} (hr : 1 ≤ room) {c : Int} {r : List Int} {S T : List Hd} {x : Hd} (h : ¬ S.length < room) (hx : FirstH S x) (hp : S.Perm (x :: T)) : outR room (c :: r) S = x :: outR room r (newH x c :: T) := by
  have hne : S ≠ [] := fun e => by rw [e] at hx; cases hx.1
  have e : minH S = x := (minH_first S hne).unique hx
  have he : (S.erase (minH S)).Perm T := by
    rw [e]
    have := hp.erase x
    simpa using this
  have hl := erase_len hne
  unfold outR
  rw [show 2 * (c :: r).length + S.length = (2 * r.length + S.length + 1) + 1 by simp; omega]
  simp only [outF]
  rw [if_neg h]
  rw [outF_perm room _ r _ _ (he.cons _), e]
  have hlt := he.length_eq
  exact congrArg _ (outF_any room hr _ _ r _ (by simp; omega) (Nat.le_refl _))
theorem outR_drain {room : Nat} (hr : 1 ≤ room) {S T : List Hd} {x : Hd} (hx : FirstH S x) (hp : S.Perm (x :: T)) : outR room [] S = x :: outR room [] T := by
  have hne : S ≠ [] := fun e => by rw [e] at hx; cases hx.1
  have e : minH S = x := (minH_first S hne).unique hx
  have he : (S.erase (minH S)).Perm T := by
    rw [e]
    have := hp.erase x
    simpa using this
  have hl := erase_len hne
  have hlt := he.length_eq
  unfold outR
  rw [show 2 * ([] : List Int).length + S.length = (S.length - 1) + 1 by simp; omega]
  simp only [outF]
  rw [if_neg hne, outF_perm room _ [] _ _ he, e]
  exact congrArg _ (outF_any room hr _ _ [] _ (by simp; omega) (by simp))

/-- How many are of a run. -/
def ofR (r : Nat) (L : List Hd) : Nat := L.countP fun x => decide (x.1 = r)
theorem ofR_append (r : Nat) (A B : List Hd) : ofR r (A ++ B) = ofR r A + ofR r B := by unfold ofR; exact List.countP_append
theorem ofR_cons (r : Nat) (x : Hd) (L : List Hd) : ofR r (x :: L) = (if x.1 = r then 1 else 0) + ofR r L := by
  unfold ofR
  by_cases h : x.1 = r
  · rw [List.countP_cons_of_pos (by simpa using h), if_pos h]; omega
  · rw [List.countP_cons_of_neg (by simpa using h), if_neg h]; omega
theorem ofR_perm {r : Nat} {A B : List Hd} (p : A.Perm B) : ofR r A = ofR r B := p.countP_eq _
theorem ofR_pos {r : Nat} {L : List Hd} (h : 0 < ofR r L) : ∃ x ∈ L, x.1 = r := by
  obtain ⟨x, h1, h2⟩ := List.countP_pos_iff.1 h
  exact ⟨x, h1, by simpa using h2⟩
theorem ofR_le (r : Nat) (L : List Hd) : ofR r L ≤ L.length := List.countP_le_length

/-- How things stand: these numbers came, this is held, this has gone out. -/
structure RunI (room : Nat) (came : List Int) (S pre : List Hd) : Prop where
  perm : ((pre ++ S).map Prod.snd).Perm came
  up : pre.Pairwise leH
  low : ∀ o ∈ pre, ∀ s ∈ S, leH o s
  few : S.length ≤ room
  long : ∀ r, (∃ x ∈ pre ++ S, x.1 = r + 1) → room ≤ ofR r (pre ++ S)
theorem RunI.begin (room : Nat) : RunI room [] [] [] := ⟨List.Perm.refl _, List.Pairwise.nil, fun _ h => (by cases h), Nat.zero_le _, fun r h => (by obtain ⟨x, h, _⟩ := h; cases h)⟩
/-- No run is left out. -/
theorem RunI.chain {room : Nat} (hr : 1 ≤ room) {came : List Int} {S pre : List Hd} (h : RunI room came S pre) : ∀ (a b : Nat), b ≤ a → (∃ x ∈ pre ++ S, x.1 = a) → ∃ x ∈ pre ++ S, x.1 = b
  | a, b, hab, hx => by
    rcases Nat.lt_or_ge b a with q | q
    · obtain ⟨a', rfl⟩ : ∃ a', a = a' + 1 := ⟨a - 1, by omega⟩
      have := h.long a' hx
      exact RunI.chain hr h a' b (by omega) (ofR_pos (by omega))
    · obtain rfl : a = b := by omega
      exact hx
theorem RunI.hold {room : Nat} {came : List Int} {S : List Hd} (h : RunI room came S []) (hs : S.length < room) (c : Int) : RunI room (came ++ [c]) (S ++ [(0, c)]) [] := by
  refine ⟨?_, List.Pairwise.nil, fun _ q => (by cases q), by simp; omega, fun r q => ?_⟩
  · have := h.perm
    simp only [List.nil_append] at this ⊢
    rw [List.map_append]
    exact this.append_right _
  · simp only [List.nil_append] at q ⊢
    obtain ⟨x, hx, e⟩ := q
    rcases List.mem_append.1 hx with z | z
    · have := h.long r ⟨x, by simpa using z, e⟩
      simp only [List.nil_append] at this
      rw [ofR_append]; omega
    · rw [List.mem_singleton.1 z] at e; cases e
theorem moved {pre S T : List Hd} {x : Hd} (hp : S.Perm (x :: T)) : ((pre ++ [x]) ++ T).Perm (pre ++ S) := by
  rw [List.append_assoc]
  exact (List.Perm.append_left pre hp).symm
theorem low_first {pre S T : List Hd} {x : Hd} (hl : ∀ o ∈ pre, ∀ s ∈ S, leH o s) (hx : FirstH S x) (hp : S.Perm (x :: T)) : (∀ o ∈ pre ++ [x], ∀ s ∈ T, leH o s) ∧ (∀ o ∈ pre ++ [x], leH o x) := by
  refine ⟨fun o ho s hs => ?_, fun o ho => ?_⟩
  · have hs' : s ∈ S := hp.symm.subset (List.mem_cons_of_mem _ hs)
    rcases List.mem_append.1 ho with z | z
    · exact hl o z s hs'
    · rw [List.mem_singleton.1 z]; exact hx.2 s hs'
  · rcases List.mem_append.1 ho with z | z
    · exact hl o z x hx.1
    · rw [List.mem_singleton.1 z]; exact leH_refl _
theorem up_more {pre : List Hd} {x : Hd} (hu : pre.Pairwise leH) (h : ∀ o ∈ pre, leH o x) : (pre ++ [x]).Pairwise leH := by
  rw [List.pairwise_append]
  exact ⟨hu, List.pairwise_singleton _ _, fun a ha b hb => by rw [List.mem_singleton.1 hb]; exact h a ha⟩
theorem RunI.swap {room : Nat} (hr : 1 ≤ room) {came : List Int} {S T pre : List Hd} {x : Hd} (h : RunI room came S pre) (hs : ¬ S.length < room) (hx : FirstH S x) (hp : S.Perm (x :: T)) (c : Int) :
    RunI room (came ++ [c]) (newH x c :: T) (pre ++ [x]) := by
  obtain ⟨l1, l2⟩ := low_first h.low hx hp
  have hm := moved (pre := pre) hp
  have hall : ((pre ++ [x]) ++ newH x c :: T).Perm (newH x c :: (pre ++ S)) := List.perm_middle.trans (hm.cons _)
  refine ⟨?_, up_more h.up fun o ho => h.low o ho x hx.1, fun o ho s hs2 => ?_, ?_, fun r q => ?_⟩
  · refine (hall.map Prod.snd).trans ?_
    rw [List.map_cons, newH_snd]
    exact (h.perm.cons c).trans (List.perm_append_comm (l₁ := [c]) (l₂ := came))
  · rcases List.mem_cons.1 hs2 with rfl | z
    · exact leH_trans (l2 o ho) (newH_le x c)
    · exact l1 o ho s z
  · have := hp.length_eq
    have := h.few
    simp only [List.length_cons] at *
    omega
  · rw [ofR_perm hall, ofR_cons]
    obtain ⟨y, hy, e⟩ := q
    by_cases hold : ∃ z ∈ pre ++ S, z.1 = r + 1
    · have := h.long r hold; omega
    · rcases List.mem_cons.1 (hall.subset hy) with z | z
      · subst z
        have hxin : x ∈ pre ++ S := List.mem_append_right _ hx.1
        by_cases hc : c < x.2
        · rw [newH_less hc] at e
          have er : x.1 = r := by simpa using e
          have hone : ∀ s ∈ S, s.1 = r := by
            intro s hs2
            have h1 := leH_run (hx.2 s hs2)
            rcases Nat.lt_or_ge r s.1 with g | g
            · exact absurd (h.chain hr s.1 (r + 1) (by omega) ⟨s, List.mem_append_right _ hs2, rfl⟩) hold
            · omega
          have hcount : ofR r S = S.length := List.countP_eq_length.2 fun s hs2 => by simpa using hone s hs2
          rw [ofR_append, hcount]; omega
        · rw [newH_more hc] at e
          exact absurd ⟨x, hxin, e⟩ hold
      · exact absurd ⟨y, z, e⟩ hold
theorem RunI.drain {room : Nat} {came : List Int} {S T pre : List Hd} {x : Hd} (h : RunI room came S pre) (hx : FirstH S x) (hp : S.Perm (x :: T)) : RunI room came T (pre ++ [x]) := by
  obtain ⟨l1, _⟩ := low_first h.low hx hp
  have hm := moved (pre := pre) hp
  refine ⟨(hm.map _).trans h.perm, up_more h.up fun o ho => h.low o ho x hx.1, l1, ?_, fun r q => ?_⟩
  · have := hp.length_eq
    have := h.few
    simp only [List.length_cons] at *
    omega
  · rw [ofR_perm hm]
    obtain ⟨y, hy, e⟩ := q
    exact h.long r ⟨y, hm.subset hy, e⟩
/-- To the end. While numbers are to come, and something has gone out, no room is left. -/
theorem RunI.all {room : Nat} (hr : 1 ≤ room) : ∀ (m : Nat) (rest came : List Int) (S pre : List Hd), 2 * rest.length + S.length = m → RunI room came S pre → (pre = [] ∨ rest = [] ∨ ¬ S.length < room) → RunI room (came ++ rest) [] (pre ++ outR room rest S) := by
  intro m
  induction m using Nat.strongRecOn with
  | _ m ih =>
    intro rest came S pre hm h hf
    cases rest with
    | cons c r =>
      simp only [List.length_cons] at hm
      by_cases hs : S.length < room
      · have e : pre = [] := by
          rcases hf with z | z | z
          · exact z
          · cases z
          · exact absurd hs z
        subst e
        have := ih (2 * r.length + (S ++ [((0 : Nat), c)]).length) (by simp; omega) r (came ++ [c]) (S ++ [(0, c)]) [] rfl (h.hold hs c) (Or.inl rfl)
        rw [outR_hold hr hs]
        simpa using this
      · have hne : S ≠ [] := fun e => hs (by rw [e]; simp; omega)
        have hx := minH_first S hne
        have hp : S.Perm (minH S :: S.erase (minH S)) := List.perm_cons_erase hx.1
        have hl := erase_len hne
        have := ih (2 * r.length + (newH (minH S) c :: S.erase (minH S)).length) (by simp; omega) r (came ++ [c]) _ (pre ++ [minH S]) rfl (h.swap hr hs hx hp c) (Or.inr (Or.inr (by simp; omega)))
        rw [outR_swap hr hs hx hp]
        simpa using this
    | nil =>
      by_cases hne : S = []
      · subst hne
        rw [outR_end, List.append_nil, List.append_nil]
        exact h
      · have hx := minH_first S hne
        have hp : S.Perm (minH S :: S.erase (minH S)) := List.perm_cons_erase hx.1
        have hl := erase_len hne
        have := ih (2 * ([] : List Int).length + (S.erase (minH S)).length) (by simp at hm ⊢; omega) [] came _ (pre ++ [minH S]) rfl (h.drain hx hp) (Or.inr (Or.inl rfl))
        rw [outR_drain hr hx hp]
        simpa using this
/-- What goes out of all numbers. -/
def outs (room : Nat) (l : List Int) : List Hd := outR room l []
theorem outs_fact {room : Nat} (hr : 1 ≤ room) (l : List Int) : RunI room l [] (outs room l) := by
  have := RunI.all hr _ l [] [] [] rfl (RunI.begin room) (Or.inl rfl)
  simpa [outs] using this

/-- A walk to the end keeps what each step keeps. -/
theorem RunI.keep {room : Nat} (hr : 1 ≤ room) (K : List Int → List Hd → List Hd → Prop) (l : List Int)
    (k1 : ∀ came c r S, l = came ++ c :: r → RunI room came S [] → S.length < room → K came S [] → K (came ++ [c]) (S ++ [(0, c)]) [])
    (k2 : ∀ came c r S T pre x, l = came ++ c :: r → RunI room came S pre → ¬ S.length < room → FirstH S x → S.Perm (x :: T) → K came S pre → K (came ++ [c]) (newH x c :: T) (pre ++ [x]))
    (k3 : ∀ S T pre x, RunI room l S pre → FirstH S x → S.Perm (x :: T) → K l S pre → K l T (pre ++ [x])) :
    ∀ (m : Nat) (rest came : List Int) (S pre : List Hd), 2 * rest.length + S.length = m → l = came ++ rest → RunI room came S pre → (pre = [] ∨ rest = [] ∨ ¬ S.length < room) → K came S pre → K l [] (pre ++ outR room rest S) := by
  intro m
  induction m using Nat.strongRecOn with
  | _ m ih =>
    intro rest came S pre hm hl h hf hK
    cases rest with
    | cons c r =>
      simp only [List.length_cons] at hm
      by_cases hs : S.length < room
      · have e : pre = [] := by
          rcases hf with z | z | z
          · exact z
          · cases z
          · exact absurd hs z
        subst e
        have := ih (2 * r.length + (S ++ [((0 : Nat), c)]).length) (by simp; omega) r (came ++ [c]) (S ++ [(0, c)]) [] rfl (by rw [hl]; simp) (h.hold hs c) (Or.inl rfl) (k1 came c r S hl h hs hK)
        rw [outR_hold hr hs]
        simpa using this
      · have hne : S ≠ [] := fun e => hs (by rw [e]; simp; omega)
        have hx := minH_first S hne
        have hp : S.Perm (minH S :: S.erase (minH S)) := List.perm_cons_erase hx.1
        have hl2 := erase_len hne
        have := ih (2 * r.length + (newH (minH S) c :: S.erase (minH S)).length) (by simp; omega) r (came ++ [c]) _ (pre ++ [minH S]) rfl (by rw [hl]; simp) (h.swap hr hs hx hp c) (Or.inr (Or.inr (by simp; omega))) (k2 came c r S _ pre _ hl h hs hx hp hK)
        rw [outR_swap hr hs hx hp]
        simpa using this
    | nil =>
      have hc : l = came := by simpa using hl
      subst hc
      by_cases hne : S = []
      · subst hne
        rw [outR_end, List.append_nil]
        exact hK
      · have hx := minH_first S hne
        have hp : S.Perm (minH S :: S.erase (minH S)) := List.perm_cons_erase hx.1
        have hl2 := erase_len hne
        have := ih (2 * ([] : List Int).length + (S.erase (minH S)).length) (by simp at hm ⊢; omega) [] l _ (pre ++ [minH S]) rfl (by simp) (h.drain hx hp) (Or.inr (Or.inl rfl)) (k3 S _ pre _ h hx hp hK)
        rw [outR_drain hr hx hp]
        simpa using this
/-- How many of them are greater. -/
def above (L : List Int) (c : Int) : Nat := L.countP fun y => decide (c < y)
/-- Where fewer greater ones stand ahead of each than there is room for, all are of one run. -/
theorem near_one {room : Nat} (hr : 1 ≤ room) (l : List Int) (hn : ∀ came c r, l = came ++ c :: r → above came c < room) : ∀ x ∈ outs room l, x.1 = 0 := by
  have key := RunI.keep hr (fun _ S pre => ∀ x ∈ pre ++ S, x.1 = 0) l
    (fun came c r S hl _ _ hK x hx => by
      simp only [List.nil_append] at hx hK
      rcases List.mem_append.1 hx with z | z
      · exact hK x z
      · rw [List.mem_singleton.1 z])
    (fun came c r S T pre x hl h hs hx hp hK y hy => by
      have hm := moved (pre := pre) hp
      have hall : ((pre ++ [x]) ++ newH x c :: T).Perm (newH x c :: (pre ++ S)) := List.perm_middle.trans (hm.cons _)
      rcases List.mem_cons.1 (hall.subset hy) with z | z
      · subst z
        have h0 : x.1 = 0 := hK x (List.mem_append_right _ hx.1)
        by_cases hc : c < x.2
        · exfalso
          have h1 := hn came c r hl
          have h2 : above came c = above ((pre ++ S).map Prod.snd) c := (h.perm.countP_eq _).symm
          have h3 : above (S.map Prod.snd) c = S.length := by
            have : above (S.map Prod.snd) c = (S.map Prod.snd).length := List.countP_eq_length.2 fun v hv => by
              obtain ⟨s, hs2, rfl⟩ := List.mem_map.1 hv
              have a1 := hx.2 s hs2
              have a2 := hK s (List.mem_append_right _ hs2)
              rw [leH_iff] at a1
              simp only [decide_eq_true_eq]
              omega
            simpa using this
          have h4 : above ((pre ++ S).map Prod.snd) c = above (pre.map Prod.snd) c + above (S.map Prod.snd) c := by
            rw [List.map_append]; exact List.countP_append
          omega
        · rw [newH_more hc]; exact h0
      · exact hK y z)
    (fun S T pre x h hx hp hK y hy => hK y ((moved (pre := pre) hp).subset hy))
    _ l [] [] [] rfl (by simp) (RunI.begin room) (Or.inl rfl) (fun x hx => by simp at hx)
  intro x hx
  exact key x (by simpa [outs] using hx)
/-- What falls all the way has no run that is longer than the room. -/
theorem falls_few {room : Nat} (hr : 1 ≤ room) (l : List Int) (hn : ∀ came c r, l = came ++ c :: r → ∀ y ∈ came, c < y) : ∀ r, ofR r (outs room l) ≤ room := by
  have bound : ∀ (S pre : List Hd), ofR 0 (pre ++ S) ≤ room → (∀ r, ofR (r + 1) (pre ++ S) = ofR r pre) → ∀ r, ofR r (pre ++ S) ≤ room := by
    intro S pre h0 hs r
    induction r with
    | zero => exact h0
    | succ r ih =>
      rw [hs r]
      rw [ofR_append] at ih
      omega
  have key := RunI.keep hr (fun came S pre => (∀ r, ofR r (pre ++ S) ≤ room) ∧ (came ≠ l → (∀ r, ofR (r + 1) (pre ++ S) = ofR r pre))) l
    (fun came c r S hl h hs hK => by
      have hcl : came ≠ l := fun e => by
        have := congrArg List.length hl
        rw [← e] at this; simp at this
      have h2 := hK.2 hcl
      have e : ∀ q, ofR (q + 1) ([] ++ (S ++ [(0, c)])) = ofR q [] := fun q => by
        have := h2 q
        simp only [List.nil_append] at this ⊢
        rw [ofR_append, this, ofR_cons, if_neg (by simp)]; rfl
      refine ⟨bound _ _ ?_ e, fun _ => e⟩
      have := ofR_le 0 ([] ++ (S ++ [((0 : Nat), c)]))
      simp at this
      simp only [List.nil_append]
      omega)
    (fun came c r S T pre x hl h hs hx hp hK => by
      have hcl : came ≠ l := fun e => by
        have := congrArg List.length hl
        rw [← e] at this; simp at this
      have h2 := hK.2 hcl
      have hm := moved (pre := pre) hp
      have hall : ((pre ++ [x]) ++ newH x c :: T).Perm (newH x c :: (pre ++ S)) := List.perm_middle.trans (hm.cons _)
      have hc : c < x.2 := hn came c r hl x.2 (h.perm.subset (List.mem_map_of_mem (List.mem_append_right _ hx.1)))
      have e : ∀ q, ofR (q + 1) ((pre ++ [x]) ++ newH x c :: T) = ofR q (pre ++ [x]) := fun q => by
        rw [ofR_perm hall, ofR_cons, newH_less hc, ofR_append q pre [x], ofR_cons, h2 q]
        show (if x.1 + 1 = q + 1 then 1 else 0) + ofR q pre = ofR q pre + ((if x.1 = q then 1 else 0) + ofR q [])
        have : ofR q [] = 0 := rfl
        by_cases hq : x.1 = q
        · rw [if_pos (by omega), if_pos hq]; omega
        · rw [if_neg (by omega), if_neg hq]; omega
      refine ⟨bound _ _ ?_ e, fun _ => e⟩
      rw [ofR_perm hall, ofR_cons, newH_less hc, if_neg (by simp)]
      have := hK.1 0
      omega)
    (fun S T pre x h hx hp hK => ⟨fun r => by rw [ofR_perm (moved (pre := pre) hp)]; exact hK.1 r, fun hne => absurd rfl hne⟩)
    _ l [] [] [] rfl (by simp) (RunI.begin room) (Or.inl rfl) ⟨fun r => Nat.zero_le _, fun _ r => rfl⟩
  intro r
  have := key.1 r
  simpa [outs] using this

/-- The numbers of a run; the runs. -/
def rowR (o : List Hd) (r : Nat) : List Int := (o.filter fun x => decide (x.1 = r)).map Prod.snd
def topR (o : List Hd) : Nat := match o.getLast? with
  | none => 0
  | some x => x.1 + 1
def rowsR (o : List Hd) : List (List Int) := (List.range (topR o)).map (rowR o)
theorem topR_snoc (o : List Hd) (x : Hd) : topR (o ++ [x]) = x.1 + 1 := by unfold topR; simp
theorem rowR_len (o : List Hd) (r : Nat) : (rowR o r).length = ofR r o := by unfold rowR ofR; rw [List.length_map, List.countP_eq_length_filter]
theorem rowR_snoc (o : List Hd) (x : Hd) (r : Nat) : rowR (o ++ [x]) r = rowR o r ++ (if x.1 = r then [x.2] else []) := by
  unfold rowR
  rw [List.filter_append, List.map_append]
  congr 1
  by_cases h : x.1 = r
  · simp [h]
  · simp [h]
theorem rowsR_len (o : List Hd) : (rowsR o).length = topR o := by simp [rowsR]
theorem top_up {o : List Hd} (h : o.Pairwise leH) : ∀ x ∈ o, x.1 + 1 ≤ topR o := by
  intro x hx
  obtain ⟨z, hz⟩ : ∃ z, o.getLast? = some z := by
    cases e : o.getLast? with
    | none => rw [List.getLast?_eq_none_iff.1 e] at hx; cases hx
    | some z => exact ⟨z, rfl⟩
  obtain ⟨ys, hys⟩ := List.getLast?_eq_some_iff.1 hz
  have et : topR o = z.1 + 1 := by unfold topR; rw [hz]
  rw [et]
  rw [hys] at h hx
  rcases List.mem_append.1 hx with q | q
  · have := leH_run ((List.pairwise_append.1 h).2.2 x q z (by simp))
    omega
  · rw [List.mem_singleton.1 q]; exact Nat.le_refl _
theorem row_none {o : List Hd} (h : o.Pairwise leH) {r : Nat} (hr : topR o ≤ r) : rowR o r = [] := by
  apply List.eq_nil_of_length_eq_zero
  rw [rowR_len]
  rcases Nat.eq_zero_or_pos (ofR r o) with q | q
  · exact q
  · obtain ⟨x, hx, e⟩ := ofR_pos q
    have := top_up h x hx
    omega
/-- One more of the run that is the last. -/
theorem rowsR_same {o : List Hd} {x : Hd} (hx : x.1 + 1 = topR o) : rowsR (o ++ [x]) = (rowsR o).set x.1 (rowR o x.1 ++ [x.2]) := by
  apply List.ext_getElem
  · simp [rowsR, topR_snoc, hx]
  · intro i h1 h2
    simp only [rowsR, List.getElem_map, List.getElem_range, List.getElem_set]
    rw [rowR_snoc]
    by_cases q : x.1 = i
    · subst q; simp
    · rw [if_neg q, if_neg q, List.append_nil]
/-- The first one of a run. -/
theorem rowsR_next {o : List Hd} {x : Hd} (h : o.Pairwise leH) (hx : x.1 = topR o) : rowsR (o ++ [x]) = rowsR o ++ [[x.2]] := by
  unfold rowsR
  rw [topR_snoc, hx, List.range_succ, List.map_append]
  congr 1
  · apply List.map_congr_left
    intro i hi
    rw [List.mem_range] at hi
    rw [rowR_snoc, if_neg (by omega), List.append_nil]
  · simp only [List.map_cons, List.map_nil]
    rw [rowR_snoc, if_pos hx, row_none h (Nat.le_refl _)]; rfl
/-- The numbers of each run do not fall. -/
theorem rowR_up {o : List Hd} (h : o.Pairwise leH) (r : Nat) : (rowR o r).Pairwise (· ≤ ·) := by
  unfold rowR
  rw [List.pairwise_map]
  refine (h.filter _).imp_of_mem fun {a b} ha hb hab => ?_
  have h1 : a.1 = r := by simpa using (List.mem_filter.1 ha).2
  have h2 : b.1 = r := by simpa using (List.mem_filter.1 hb).2
  rw [leH_iff] at hab
  omega
theorem top_last {o : List Hd} (h : 0 < topR o) : ∃ x ∈ o, x.1 + 1 = topR o := by
  cases e : o.getLast? with
  | none => unfold topR at h; rw [e] at h; cases h
  | some z => exact ⟨z, List.mem_of_getLast? e, by unfold topR; rw [e]⟩
theorem top_zero {o : List Hd} (h : topR o = 0) : o = [] := by
  cases e : o.getLast? with
  | none => exact List.getLast?_eq_none_iff.1 e
  | some z => unfold topR at h; rw [e] at h; cases h
/-- Each run has a number. -/
theorem row_some {room : Nat} (hr : 1 ≤ room) (l : List Int) {i : Nat} (hi : i < topR (outs room l)) : 0 < (rowR (outs room l) i).length := by
  have F := outs_fact hr l
  obtain ⟨z, hz, e⟩ := top_last (show 0 < topR (outs room l) by omega)
  obtain ⟨x, hx, ex⟩ := F.chain hr z.1 i (by omega) ⟨z, by simpa using hz, rfl⟩
  rw [rowR_len]
  exact List.countP_pos_iff.2 ⟨x, by simpa using hx, by simpa using ex⟩
/-- All runs but the last one are as long as the room, or longer. -/
theorem row_long {room : Nat} (hr : 1 ≤ room) (l : List Int) {i : Nat} (hi : i + 1 < topR (outs room l)) : room ≤ (rowR (outs room l) i).length := by
  have F := outs_fact hr l
  obtain ⟨z, hz, e⟩ := top_last (show 0 < topR (outs room l) by omega)
  obtain ⟨x, hx, ex⟩ := F.chain hr z.1 (i + 1) (by omega) ⟨z, by simpa using hz, rfl⟩
  have := F.long i ⟨x, hx, ex⟩
  rw [List.append_nil] at this
  rw [rowR_len]; exact this
theorem row_falls {room : Nat} (hr : 1 ≤ room) (l : List Int) (hn : ∀ came c r, l = came ++ c :: r → ∀ y ∈ came, c < y) {i : Nat} (hi : i + 1 < topR (outs room l)) : (rowR (outs room l) i).length = room := by
  have h1 := row_long hr l hi
  have h2 := falls_few hr l hn i
  rw [← rowR_len] at h2
  omega
theorem near_top {room : Nat} (hr : 1 ≤ room) (l : List Int) (hl : 0 < l.length) (hn : ∀ came c r, l = came ++ c :: r → above came c < room) : topR (outs room l) = 1 := by
  have F := outs_fact hr l
  have hne : topR (outs room l) ≠ 0 := fun e => by
    have := F.perm.length_eq
    rw [top_zero e] at this
    simp at this; omega
  obtain ⟨z, hz, e⟩ := top_last (show 0 < topR (outs room l) by omega)
  have := near_one hr l hn z hz
  omega
/-- The first k runs, one behind the other. -/
def flatK (k : Nat) (o : List Hd) : List Int := ((List.range k).map (rowR o)).flatten
theorem flatK_succ (k : Nat) (o : List Hd) : flatK (k + 1) o = flatK k o ++ rowR o k := by unfold flatK; rw [List.range_succ, List.map_append, List.flatten_append]; simp
theorem rowR_cons (x : Hd) (o : List Hd) (r : Nat) : rowR (x :: o) r = (if x.1 = r then [x.2] else []) ++ rowR o r := by
  unfold rowR
  by_cases h : x.1 = r
  · simp [h]
  · simp [h]
theorem flatK_cons (x : Hd) (o : List Hd) : ∀ k, (flatK k (x :: o)).Perm ((if x.1 < k then [x.2] else []) ++ flatK k o)
  | 0 => by simp [flatK]
  | k + 1 => by
    have ih := flatK_cons x o k
    rw [flatK_succ, flatK_succ, rowR_cons]
    rw [List.perm_iff_count]
    intro v
    have q := ih.count_eq v
    simp only [List.count_append] at q ⊢
    rcases Nat.lt_trichotomy x.1 k with h | h | h
    · rw [if_pos h] at q
      rw [if_neg (by omega), if_pos (by omega), List.count_nil]
      omega
    · rw [if_neg (by omega), List.count_nil] at q
      rw [if_pos h, if_pos (by omega)]
      omega
    · rw [if_neg (by omega), List.count_nil] at q
      rw [if_neg (by omega), if_neg (by omega), List.count_nil]
      omega
theorem flatK_all (k : Nat) : ∀ (o : List Hd), (∀ x ∈ o, x.1 < k) → (flatK k o).Perm (o.map Prod.snd)
  | [], _ => by
    have : flatK k [] = [] := by
      unfold flatK
      rw [List.flatten_eq_nil_iff]
      intro l hl
      obtain ⟨r, _, rfl⟩ := List.mem_map.1 hl
      rfl
    rw [this]; exact List.Perm.refl _
  | x :: o, h => by
    have := flatK_cons x o k
    rw [if_pos (h x List.mem_cons_self)] at this
    exact this.trans ((flatK_all k o fun y hy => h y (List.mem_cons_of_mem _ hy)).cons x.2)
/-- All runs, one behind the other, are all numbers. -/
theorem rows_flat {room : Nat} (hr : 1 ≤ room) (l : List Int) : (rowsR (outs room l)).flatten.Perm l := by
  have F := outs_fact hr l
  refine (flatK_all (topR (outs room l)) (outs room l) fun x hx => ?_).trans ?_
  · have := top_up F.up x hx; omega
  · have := F.perm; rwa [List.append_nil] at this
theorem full_len (f : Nat → List Int) (room : Nat) : ∀ k, (∀ i, i < k → room ≤ (f i).length) → k * room ≤ ((List.range k).map f).flatten.length
  | 0, _ => by simp
  | k + 1, h => by
    have ih := full_len f room k fun i hi => h i (by omega)
    have h2 := h k (by omega)
    rw [List.range_succ, List.map_append, List.flatten_append, List.length_append]
    simp only [List.map_cons, List.map_nil, List.flatten_cons, List.flatten_nil, List.append_nil]
    rw [Nat.add_mul]
    omega
theorem flat_len (f : Nat → List Int) (room : Nat) : ∀ k, (∀ i, i + 1 < k → room ≤ (f i).length) → k * room ≤ ((List.range k).map f).flatten.length + room
  | 0, _ => by simp
  | k + 1, h => by
    have := full_len f room k fun i hi => h i (by omega)
    rw [List.range_succ, List.map_append, List.flatten_append, List.length_append, Nat.add_mul]
    omega
theorem rows_long {room : Nat} (hr : 1 ≤ room) (l : List Int) : topR (outs room l) * room ≤ l.length + room := by
  have := flat_len (rowR (outs room l)) room (topR (outs room l)) fun i hi => row_long hr l hi
  have h2 := (rows_flat hr l).length_eq
  unfold rowsR at h2
  omega
#print axioms near_one
#print axioms falls_few
#print axioms rowsR_next
#print axioms rows_long
#print axioms outs_fact
end Go.Proofs.YtlaeaeciomkababDoor
