/-
  Plain facts of soft heaps: what is pushed and popped, and of how many it is wrong.
-/
import Derived.Test.YtdpfijhkbhmkgaaDoorSoG
namespace Go.Proofs.YtdpfijhkbhmkgaaDoor

/-- A node of one item. -/
def leafS (x : Int × Int) : SN := .node x.1 0 1 [x] .nil .nil
theorem leaf_good (r0 : Nat) (x : Int × Int) : (leafS x).good r0 :=
  good_node.2 ⟨⟨rfl, by simp, by unfold mostR; simp, fun y hy => by rw [List.mem_singleton.1 hy]; exact Int.le_refl _, fun _ y hy => by rw [List.mem_singleton.1 hy]⟩, good_nil r0, good_nil r0, fun q => by simp [SN.none?] at q, fun q => by simp [SN.none?] at q⟩
/-- A tree is joined with those that come first and have its rank. -/
def joinS (r0 : Nat) : SN → List SN → List SN
  | c, [] => [c]
  | c, t :: ts => if t.rank = c.rank then joinS r0 (fillS (.node 0 (t.rank + 1) (wantR r0 (t.rank + 1)) [] t c)) ts else c :: t :: ts
def allS (ts : List SN) : List (Int × Int) := ts.flatMap SN.all
theorem allS_nil : allS [] = [] := rfl
theorem allS_cons (t : SN) (ts : List SN) : allS (t :: ts) = t.all ++ allS ts := by simp [allS]
/-- How many were pushed for a tree, at the least. -/
def roomS (ts : List SN) : Nat := (ts.map fun t => 2 ^ t.rank).sum
theorem roomS_cons (t : SN) (ts : List SN) : roomS (t :: ts) = 2 ^ t.rank + roomS ts := by simp [roomS]
/-- Trees of rising ranks, all whole; n were pushed. -/
structure GoodS (r0 n : Nat) (ts : List SN) : Prop where
  good : ∀ t ∈ ts, t.good r0 ∧ t.none? = false
  rise : ts.Pairwise (fun a b => a.rank < b.rank)
  room : roomS ts ≤ n
theorem GoodS.nil (r0 n : Nat) : GoodS r0 n [] := ⟨fun _ h => (by cases h), List.Pairwise.nil, Nat.zero_le _⟩
theorem open_two {r0 : Nat} {t c : SN} (ht : t.good r0) (hc : c.good r0) (e : t.rank = c.rank) : OpenN r0 0 (t.rank + 1) (wantR r0 (t.rank + 1)) [] t c :=
  ⟨rfl, Nat.zero_le _, fun x hx => (by cases hx), fun _ x hx => (by cases hx), ht, hc, fun _ => rfl, fun _ => by rw [e], fun q => absurd rfl q, fun q => absurd rfl q⟩
theorem joinS_good {r0 : Nat} : ∀ (ts : List SN) (c : SN) (n : Nat), c.good r0 → c.none? = false → (∀ t ∈ ts, c.rank ≤ t.rank) → (∀ t ∈ ts, t.good r0 ∧ t.none? = false) → ts.Pairwise (fun a b => a.rank < b.rank) → 2 ^ c.rank + roomS ts ≤ n →
    GoodS r0 n (joinS r0 c ts) ∧ (allS (joinS r0 c ts)).Perm (c.all ++ allS ts)
  | [], c, n, hc, hn, _, _, _, hr => by
    refine ⟨⟨fun t ht => ?_, List.pairwise_singleton _ _, by simpa [joinS, roomS] using hr⟩, by simp [joinS, allS]⟩
    rw [List.mem_singleton.1 ht]; exact ⟨hc, hn⟩
  | t :: ts, c, n, hc, hn, hlow, hg, hp, hr => by
    have hp2 := List.pairwise_cons.1 hp
    have ht := hg t List.mem_cons_self
    simp only [joinS]
    by_cases e : t.rank = c.rank
    · rw [if_pos e]
      obtain ⟨i1, i2, i3, i4, _⟩ := fillS_good r0 _ 0 (t.rank + 1) (wantR r0 (t.rank + 1)) [] t c (Nat.le_refl _) (open_two ht.1 hc e) (Or.inr (Or.inl ht.2))
      obtain ⟨j1, j2⟩ := joinS_good ts _ n i1 i4 (fun u hu => by rw [i3]; exact hp2.1 u hu) (fun u hu => hg u (List.mem_cons_of_mem _ hu)) hp2.2 (by
        rw [roomS_cons, e] at hr
        rw [i3, e, Nat.pow_succ]
        omega)
      refine ⟨j1, j2.trans ?_⟩
      rw [allS_cons]
      refine (List.Perm.append_right _ i2).trans ?_
      rw [List.nil_append, ← List.append_assoc]
      exact List.Perm.append_right _ List.perm_append_comm
    · rw [if_neg e]
      have hlt : c.rank < t.rank := by have := hlow t List.mem_cons_self; omega
      refine ⟨⟨fun u hu => ?_, List.pairwise_cons.2 ⟨fun u hu => ?_, hp⟩, by rw [roomS_cons]; exact hr⟩, by rw [allS_cons]⟩
      · rcases List.mem_cons.1 hu with rfl | m
        · exact ⟨hc, hn⟩
        · exact hg u m
      · rcases List.mem_cons.1 hu with rfl | m
        · exact hlt
        · have := hp2.1 u m; omega
def pushS (r0 : Nat) (x : Int × Int) (ts : List SN) : List SN := joinS r0 (leafS x) ts
theorem GoodS.push {r0 n : Nat} {ts : List SN} (h : GoodS r0 n ts) (x : Int × Int) : GoodS r0 (n + 1) (pushS r0 x ts) ∧ (allS (pushS r0 x ts)).Perm (x :: allS ts) := by
  obtain ⟨h1, h2⟩ := joinS_good ts (leafS x) (n + 1) (leaf_good r0 x) rfl (fun t _ => Nat.zero_le _) h.good h.rise (by have := h.room; show 2 ^ 0 + _ ≤ _; omega)
  exact ⟨h1, h2.trans (by simp [leafS, SN.all_node, SN.all_nil])⟩

/-- The first tree with the least key, among the first n. -/
def atS (ts : List SN) : Nat → Nat
  | 0 => 0
  | n + 1 => if (ts[n]?.getD .nil).key < (ts[atS ts n]?.getD .nil).key then n else atS ts n
theorem atS_lt (ts : List SN) : ∀ n, 0 < n → atS ts n < n
  | 0, q => absurd q (Nat.lt_irrefl 0)
  | n + 1, _ => by
    simp only [atS]
    split
    · omega
    · rcases Nat.eq_zero_or_pos n with q | q
      · subst q; simp [atS]
      · have := atS_lt ts n q; omega
theorem atS_least (ts : List SN) : ∀ n j, j < n → (ts[atS ts n]?.getD .nil).key ≤ (ts[j]?.getD .nil).key
  | 0, j, q => absurd q (Nat.not_lt_zero j)
  | n + 1, j, q => by
    simp only [atS]
    by_cases e : (ts[n]?.getD .nil).key < (ts[atS ts n]?.getD .nil).key
    · rw [if_pos e]
      rcases Nat.lt_or_ge j n with a | a
      · have := atS_least ts n j a; omega
      · obtain rfl : j = n := by omega
        exact Int.le_refl _
    · rw [if_neg e]
      rcases Nat.lt_or_ge j n with a | a
      · exact atS_least ts n j a
      · obtain rfl : j = n := by omega
        omega
/-- What is left of a node whose first item is taken. -/
def takeS : SN → SN
  | ⟨none⟩ => .nil
  | ⟨some (k, r, w, is, a, b)⟩ =>
    if 2 * (is.drop 1).length ≤ w ∧ (a.none? = false ∨ b.none? = false) then fillS (.node k r w (is.drop 1) a b)
    else if is.drop 1 = [] then .nil else .node k r w (is.drop 1) a b
theorem takeS_good {r0 : Nat} {k : Int} {r w : Nat} {x : Int × Int} {is : List (Int × Int)} {a b : SN} (h : (SN.node k r w (x :: is) a b).good r0) :
    (takeS (.node k r w (x :: is) a b)).good r0 ∧ (x :: (takeS (.node k r w (x :: is) a b)).all).Perm (SN.node k r w (x :: is) a b).all ∧ ((takeS (.node k r w (x :: is) a b)).none? = false → (takeS (.node k r w (x :: is) a b)).rank = r) := by
  obtain ⟨h1, h2, h3, h4, h5⟩ := good_node.1 h
  have hmost : is.length ≤ mostR r0 r := by have := h1.most; simp only [List.length_cons] at this; omega
  simp only [takeS, List.drop_succ_cons, List.drop_zero]
  by_cases hc : 2 * is.length ≤ w ∧ (a.none? = false ∨ b.none? = false)
  · rw [if_pos hc]
    have HO : OpenN r0 k r w is a b := ⟨h1.want, hmost, fun y hy => h1.low y (List.mem_cons_of_mem _ hy), fun q y hy => h1.same q y (List.mem_cons_of_mem _ hy), h2, h3, fun q => (h4 q).1, fun q => (h5 q).1, fun _ q => (h4 q).2, fun _ q => (h5 q).2⟩
    obtain ⟨i1, i2, i3, _⟩ := fillS_good r0 _ k r w is a b (Nat.le_refl _) HO (Or.inr hc.2)
    refine ⟨i1, ?_, fun _ => i3⟩
    rw [SN.all_node, List.cons_append]
    exact List.Perm.cons x i2
  · rw [if_neg hc]
    by_cases he : is = []
    · rw [if_pos he]
      subst he
      have hp : a.none? = true ∧ b.none? = true := by
        cases ha : a.none? <;> cases hb : b.none?
        · exact absurd ⟨Nat.zero_le _, Or.inl ha⟩ hc
        · exact absurd ⟨Nat.zero_le _, Or.inl ha⟩ hc
        · exact absurd ⟨Nat.zero_le _, Or.inr hb⟩ hc
        · exact ⟨rfl, rfl⟩
      rw [SN.none_iff, SN.none_iff] at hp
      refine ⟨good_nil r0, ?_, fun q => by simp [SN.none?] at q⟩
      rw [SN.all_node, hp.1, hp.2, SN.all_nil]
      simp
    · rw [if_neg he]
      refine ⟨good_node.2 ⟨⟨h1.want, he, hmost, fun y hy => h1.low y (List.mem_cons_of_mem _ hy), fun q y hy => h1.same q y (List.mem_cons_of_mem _ hy)⟩, h2, h3, h4, h5⟩, ?_, fun _ => rfl⟩
      rw [SN.all_node, SN.all_node]
      simp
/-- One tree put in another one's place, or taken away. -/
def putS (ts : List SN) (i : Nat) (t : SN) : List SN := if t.none? then ts.eraseIdx i else ts.set i t
def popS (ts : List SN) : List SN := putS ts (atS ts ts.length) (takeS (ts[atS ts ts.length]?.getD .nil))
theorem split_at {α : Type} (h : List α) (i : Nat) {t : α} (e : h[i]? = some t) : h = h.take i ++ t :: h.drop (i + 1) := by
  obtain ⟨hi, rfl⟩ := List.getElem?_eq_some_iff.1 e
  rw [← List.drop_eq_getElem_cons hi, List.take_append_drop]
theorem allS_append (a b : List SN) : allS (a ++ b) = allS a ++ allS b := by simp [allS]
theorem roomS_append (a b : List SN) : roomS (a ++ b) = roomS a + roomS b := by simp [roomS]
theorem GoodS.pop {r0 n : Nat} {ts : List SN} (h : GoodS r0 n ts) (hn : ts ≠ []) : ∃ k r w x is a b, ts[atS ts ts.length]? = some (.node k r w (x :: is) a b) ∧ GoodS r0 n (popS ts) ∧ (x :: allS (popS ts)).Perm (allS ts) ∧ x.1 ≤ k ∧ (r ≤ r0 → x.1 = k) ∧ ∀ t ∈ ts, k ≤ t.key := by
  have hpos : 0 < ts.length := List.length_pos_iff.2 hn
  have hat := atS_lt ts ts.length hpos
  have hle := atS_least ts ts.length
  generalize ea : atS ts ts.length = i at hat hle
  have e : ts[i]? = some ts[i] := List.getElem?_eq_getElem hat
  generalize et : ts[i] = t at e
  have hm : t ∈ ts := by rw [← et]; exact List.getElem_mem hat
  obtain ⟨hg, hnn⟩ := h.good t hm
  cases t using SN.parts with
  | nil => simp [SN.none?] at hnn
  | node k r w is a b =>
    obtain ⟨g1, _⟩ := good_node.1 hg
    obtain ⟨x, is, rfl⟩ := List.exists_cons_of_ne_nil g1.many
    obtain ⟨t1, t2, t3⟩ := takeS_good hg
    have hpop : popS ts = putS ts i (takeS (.node k r w (x :: is) a b)) := by unfold popS; rw [ea, e]; rfl
    have hs := split_at ts i e
    refine ⟨k, r, w, x, is, a, b, e, ?_, ?_, g1.low x List.mem_cons_self, fun q => g1.same q x List.mem_cons_self, fun u hu => ?_⟩
    · rw [hpop]
      unfold putS
      cases hq : (takeS (.node k r w (x :: is) a b)).none?
      · rw [if_neg (by simp)]
        have hrank := t3 hq
        generalize takeS (.node k r w (x :: is) a b) = t' at *
        refine ⟨fun u hu => ?_, ?_, ?_⟩
        · rcases List.mem_or_eq_of_mem_set hu with m | rfl
          · exact h.good u m
          · exact ⟨t1, hq⟩
        · rw [List.pairwise_iff_getElem]
          intro p q hp1 hq1 hpq
          rw [List.length_set] at hp1 hq1
          have hr := List.pairwise_iff_getElem.1 h.rise p q hp1 hq1 hpq
          rw [List.getElem_set, List.getElem_set]
          by_cases ep : i = p
          · subst ep
            rw [if_pos rfl, if_neg (by omega), hrank]
            rw [et] at hr
            exact hr
          · rw [if_neg ep]
            by_cases eq : i = q
            · subst eq
              rw [if_pos rfl, hrank]
              rw [et] at hr
              exact hr
            · rw [if_neg eq]; exact hr
        · have hr := h.room
          have e2 : (ts.set i t').map (fun t => 2 ^ t.rank) = ts.map fun t => 2 ^ t.rank := by
            apply List.ext_getElem
            · simp
            · intro j h1 h2
              simp only [List.getElem_map, List.getElem_set]
              by_cases ej : i = j
              · subst ej; rw [if_pos rfl, et, hrank]; rfl
              · rw [if_neg ej]
          unfold roomS at hr ⊢
          rw [e2]; exact hr
      · rw [if_pos rfl]
        have hsub : (ts.eraseIdx i).Sublist ts := List.eraseIdx_sublist ts i
        refine ⟨fun u hu => h.good u (hsub.subset hu), h.rise.sublist hsub, ?_⟩
        have hr := h.room
        rw [hs, roomS_append, roomS_cons] at hr
        rw [List.eraseIdx_eq_take_drop_succ, roomS_append]
        have hp : 0 < 2 ^ (SN.node k r w (x :: is) a b).rank := Nat.pow_pos (by omega)
        omega
    · have hts : (allS ts).Perm ((SN.node k r w (x :: is) a b).all ++ (allS (ts.take i) ++ allS (ts.drop (i + 1)))) := by
        conv => lhs; rw [hs]
        rw [allS_append, allS_cons]
        exact List.perm_append_comm_assoc _ _ _
      have hps : (allS (popS ts)).Perm ((takeS (.node k r w (x :: is) a b)).all ++ (allS (ts.take i) ++ allS (ts.drop (i + 1)))) := by
        rw [hpop]
        unfold putS
        cases hq : (takeS (.node k r w (x :: is) a b)).none?
        · rw [if_neg (by simp), List.set_eq_take_append_cons_drop, if_pos hat, allS_append, allS_cons]
          exact List.perm_append_comm_assoc _ _ _
        · rw [if_pos rfl, List.eraseIdx_eq_take_drop_succ, allS_append]
          rw [(SN.none_iff _).1 hq, SN.all_nil, List.nil_append]
      refine (List.Perm.cons x hps).trans (List.Perm.trans ?_ hts.symm)
      rw [← List.cons_append]
      exact List.Perm.append_right _ t2
    · obtain ⟨j, hj, rfl⟩ := List.getElem_of_mem hu
      have := hle j hj
      rw [e, List.getElem?_eq_getElem hj] at this
      exact this

/-- Small ones are right: no item counts as less than the root. -/
theorem good_right {r0 : Nat} : ∀ {t : SN}, t.good r0 → t.rank ≤ r0 → ∀ y ∈ t.all, t.key ≤ y.1
  | ⟨none⟩, _, _, y, hy => by rw [show SN.all ⟨none⟩ = [] from SN.all_nil] at hy; cases hy
  | ⟨some (k, r, w, is, a, b)⟩, h, hr, y, hy => by
    obtain ⟨h1, h2, h3, h4, h5⟩ := good_node.1 h
    have hr' : r ≤ r0 := hr
    rw [show SN.all ⟨some (k, r, w, is, a, b)⟩ = is ++ (a.all ++ b.all) from SN.all_node k r w is a b] at hy
    show k ≤ y.1
    rcases List.mem_append.1 hy with m | m
    · rw [h1.same hr' y m]; exact Int.le_refl _
    · rcases List.mem_append.1 m with m | m
      · have hn : a.none? = false := by
          cases e : a.none?
          · rfl
          · rw [(SN.none_iff a).1 e, SN.all_nil] at m; cases m
        exact Int.le_trans (h4 hn).2 (good_right h2 (by have := (h4 hn).1; omega) y m)
      · have hn : b.none? = false := by
          cases e : b.none?
          · rfl
          · rw [(SN.none_iff b).1 e, SN.all_nil] at m; cases m
        exact Int.le_trans (h5 hn).2 (good_right h3 (by have := (h5 hn).1; omega) y m)
/-- Of how many items of a node, and of those below it, the key is another one. -/
def SN.wrong : SN → Nat
  | ⟨none⟩ => 0
  | ⟨some (k, _, _, is, a, b)⟩ => (is.filter fun x => decide (x.1 ≠ k)).length + (a.wrong + b.wrong)
/-- At most so many, in a tree of a rank. -/
def badR (r0 : Nat) : Nat → Nat
  | 0 => 0
  | r + 1 => if r + 1 ≤ r0 then 0 else mostR r0 (r + 1) + 2 * badR r0 r
theorem wrong_le_bad {r0 : Nat} : ∀ {t : SN}, t.good r0 → t.none? = false → t.wrong ≤ badR r0 t.rank
  | ⟨none⟩, _, hn => by simp [SN.none?] at hn
  | ⟨some (k, r, w, is, a, b)⟩, h, _ => by
    obtain ⟨h1, h2, h3, h4, h5⟩ := good_node.1 h
    have ew : SN.wrong ⟨some (k, r, w, is, a, b)⟩ = (is.filter fun x => decide (x.1 ≠ k)).length + (a.wrong + b.wrong) := by simp [SN.wrong]
    rw [ew]
    show _ ≤ badR r0 r
    have pa : a.none? = true → a.wrong = 0 := fun q => by rw [(SN.none_iff a).1 q]; simp [SN.wrong]
    have pb : b.none? = true → b.wrong = 0 := fun q => by rw [(SN.none_iff b).1 q]; simp [SN.wrong]
    have hf : (is.filter fun x => decide (x.1 ≠ k)).length ≤ if r ≤ r0 then 0 else mostR r0 r := by
      by_cases hr : r ≤ r0
      · rw [if_pos hr]
        have : is.filter (fun x => decide (x.1 ≠ k)) = [] := List.filter_eq_nil_iff.2 fun x hx => by simp [h1.same hr x hx]
        rw [this]; exact Nat.le_refl _
      · rw [if_neg hr]
        exact Nat.le_trans (List.length_filter_le _ _) h1.most
    cases r with
    | zero =>
      have na : a.none? = true := by cases e : a.none? <;> first | rfl | (have := (h4 e).1; omega)
      have nb : b.none? = true := by cases e : b.none? <;> first | rfl | (have := (h5 e).1; omega)
      rw [pa na, pb nb]
      rw [if_pos (Nat.zero_le _)] at hf
      simp only [badR]; omega
    | succ r =>
      have qa : a.wrong ≤ badR r0 r := by
        cases e : a.none?
        · have := wrong_le_bad h2 e
          rw [show a.rank = r by have := (h4 e).1; omega] at this
          exact this
        · rw [pa e]; exact Nat.zero_le _
      have qb : b.wrong ≤ badR r0 r := by
        cases e : b.none?
        · have := wrong_le_bad h3 e
          rw [show b.rank = r by have := (h5 e).1; omega] at this
          exact this
        · rw [pb e]; exact Nat.zero_le _
      simp only [badR]
      by_cases hr : r + 1 ≤ r0
      · rw [if_pos hr] at hf ⊢
        have hz : badR r0 r = 0 := by
          cases r with
          | zero => rfl
          | succ r => simp only [badR]; rw [if_pos (by omega)]
        omega
      · rw [if_neg hr] at hf ⊢
        omega
def wrongS (ts : List SN) : Nat := (ts.map SN.wrong).sum
/-- It is wrong about few. -/
theorem bad_few : ∀ r0, r0 ≤ 8 → 5 ≤ r0 → ∀ r, r ≤ 8 → badR r0 r * 2 ^ (r0 - 5) ≤ 2 ^ r := by decide
theorem GoodS.few {r0 n : Nat} {ts : List SN} (h : GoodS r0 n ts) (h5 : 5 ≤ r0) (h8 : r0 ≤ 8) (hn : n ≤ 400) : wrongS ts * 2 ^ (r0 - 5) ≤ n := by
  have key : ∀ (l : List SN), (∀ t ∈ l, t.good r0 ∧ t.none? = false) → roomS l ≤ 400 → wrongS l * 2 ^ (r0 - 5) ≤ roomS l := by
    intro l
    induction l with
    | nil => intro _ _; simp [wrongS, roomS]
    | cons t l ih =>
      intro hg hr
      rw [roomS_cons] at hr ⊢
      have hp : 0 < 2 ^ t.rank := Nat.pow_pos (by omega)
      have h1 := ih (fun u hu => hg u (List.mem_cons_of_mem _ hu)) (by omega)
      have ht := hg t List.mem_cons_self
      have h2 := wrong_le_bad ht.1 ht.2
      have h3 : t.rank ≤ 8 := by
        rcases Nat.lt_or_ge 8 t.rank with q | q
        · have := Nat.pow_le_pow_right (show 0 < 2 by omega) q
          omega
        · exact q
      have h4 := bad_few r0 h8 h5 t.rank h3
      have h6 : t.wrong * 2 ^ (r0 - 5) ≤ badR r0 t.rank * 2 ^ (r0 - 5) := Nat.mul_le_mul_right _ h2
      have e : wrongS (t :: l) = t.wrong + wrongS l := by simp [wrongS]
      rw [e, Nat.add_mul]
      omega
  exact Nat.le_trans (key ts h.good (Nat.le_trans h.room hn)) h.room
#print axioms GoodS.few
#print axioms GoodS.pop
end Go.Proofs.YtdpfijhkbhmkgaaDoor
