/-
  The law SoftRight: what holds from step to step.
-/
import Derived.Test.YtmgfinephghmaaaDoorSoZ
import Derived.Test.YtmgfinephghmaaaDoorSame
import Derived.Test.YtmgfinephghmaaaDoorLawSItem
namespace Go.Proofs.YtmgfinephghmaaaDoor
open Go.RowKit Go.Sort Go.Proofs Go.Lib

def twoR (r0 : Nat) : Nat := 2 ^ (r0 + 1)
/-- Few were pushed: no tree's rank is above the heap's. -/
theorem GoodS.ranks {r0 n : Nat} {ts : List SN} (h : GoodS r0 n ts) (hn : n < twoR r0) : ∀ t ∈ ts, t.rank ≤ r0 := by
  intro t ht
  have h1 : 2 ^ t.rank ≤ roomS ts := by
    obtain ⟨i, hi, e⟩ := List.getElem_of_mem ht
    have e' : ts[i]? = some t := by rw [List.getElem?_eq_getElem hi, e]
    rw [split_at ts i e', roomS_append, roomS_cons]
    omega
  have h2 := h.room
  unfold twoR at hn
  rcases Nat.lt_or_ge r0 t.rank with q | q
  · have := Nat.pow_le_pow_right (show 0 < 2 by omega) q
    rw [Nat.succ_eq_add_one] at this
    omega
  · exact q
theorem bad_low (r0 : Nat) : ∀ r, r ≤ r0 → badR r0 r = 0
  | 0, _ => rfl
  | r + 1, h => by simp only [badR]; rw [if_pos h]
theorem GoodS.none_wrong {r0 n : Nat} {ts : List SN} (h : GoodS r0 n ts) (hn : n < twoR r0) : wrongS ts = 0 := by
  have hr := h.ranks hn
  have hg := h.good
  clear h hn
  induction ts with
  | nil => rfl
  | cons t ts ih =>
    have e : wrongS (t :: ts) = t.wrong + wrongS ts := by simp [wrongS]
    rw [e, ih (fun u hu => hr u (List.mem_cons_of_mem _ hu)) (fun u hu => hg u (List.mem_cons_of_mem _ hu))]
    have h1 := hg t List.mem_cons_self
    have h2 := wrong_le_bad h1.1 h1.2
    rw [bad_low r0 _ (hr t List.mem_cons_self)] at h2
    omega
theorem mem_allS {ts : List SN} {y : Int × Int} (h : y ∈ allS ts) : ∃ t ∈ ts, y ∈ t.all := by
  unfold allS at h
  rw [List.mem_flatMap] at h
  exact h
theorem GoodS.empty {r0 n : Nat} {ts : List SN} (h : GoodS r0 n ts) : allS ts = [] ↔ ts = [] := by
  constructor
  · intro e
    cases ts with
    | nil => rfl
    | cons t ts =>
      rw [allS_cons] at e
      obtain ⟨e1, _⟩ := List.append_eq_nil_iff.1 e
      obtain ⟨g1, g2⟩ := h.good t List.mem_cons_self
      obtain ⟨k, r, m, is, a, b, rfl⟩ := node_of g2
      rw [SN.all_node] at e1
      exact absurd (List.append_eq_nil_iff.1 e1).1 (good_node.1 g1).1.many
  · rintro rfl; rfl
/-- The last place of an item among the first ones, or -1. -/
def lastI (hs : List (Int × Int)) (x : Int × Int) : Nat → Int
  | 0 => -1
  | j + 1 => if hs[j]? = some x then (j : Int) else lastI hs x j
theorem lastI_lt (hs : List (Int × Int)) (x : Int × Int) : ∀ j, lastI hs x j < j ∧ -1 ≤ lastI hs x j
  | 0 => by simp [lastI]
  | j + 1 => by
    have := lastI_lt hs x j
    simp only [lastI]
    split <;> omega
theorem lastI_get (hs : List (Int × Int)) (x : Int × Int) : ∀ j, 0 ≤ lastI hs x j → hs[(lastI hs x j).toNat]? = some x
  | 0, h => by simp [lastI] at h
  | j + 1, h => by
    simp only [lastI] at h ⊢
    by_cases q : hs[j]? = some x
    · rw [if_pos q]; simpa using q
    · rw [if_neg q] at h ⊢; exact lastI_get hs x j h
theorem lastI_some (hs : List (Int × Int)) (x : Int × Int) : ∀ j i, i < j → hs[i]? = some x → 0 ≤ lastI hs x j
  | 0, i, h, _ => by omega
  | j + 1, i, h, e => by
    simp only [lastI]
    by_cases q : hs[j]? = some x
    · rw [if_pos q]; omega
    · rw [if_neg q]
      refine lastI_some hs x j i ?_ e
      rcases Nat.lt_or_ge i j with z | z
      · exact z
      · obtain rfl : i = j := by omega
        exact absurd e q
theorem set_perm' {l : List (Int × Int)} {a : Nat} {x y : Int × Int} (h : l[a]? = some x) : (x :: l.set a y).Perm (y :: l) := by
  have ha := (List.getElem?_eq_some_iff.1 h).1
  have e := split_at l a h
  rw [List.set_eq_take_append_cons_drop, if_pos ha]
  refine (List.Perm.cons x (List.perm_middle (a := y))).trans ?_
  refine (List.Perm.swap y x _).trans (List.Perm.cons y ?_)
  conv => rhs; rw [e]
  exact (List.perm_middle (a := x)).symm
/-- One is taken out: the last one comes in its place. -/
theorem out_perm {hs : List (Int × Int)} {m a : Nat} {x y : Int × Int} (hl : hs.length = m + 1) (hx : hs[a]? = some x) (hy : hs[m]? = some y) : (x :: (hs.set a y).take m).Perm hs := by
  have e : hs = hs.take m ++ [y] := by
    have := split_at hs m hy
    rw [List.drop_of_length_le (by omega)] at this
    exact this
  have ha := (List.getElem?_eq_some_iff.1 hx).1
  rcases Nat.lt_or_ge a m with q | q
  · rw [show (hs.set a y).take m = (hs.take m).set a y from List.take_set]
    have hx' : (hs.take m)[a]? = some x := by rw [List.getElem?_take_of_lt q]; exact hx
    refine (set_perm' (y := y) hx').trans ?_
    conv => rhs; rw [e]
    exact List.perm_append_comm (l₁ := [y])
  · obtain rfl : a = m := by omega
    obtain rfl : x = y := by rw [hx] at hy; exact Option.some.inj hy
    have : hs.set a x = hs := by
      refine List.ext_getElem? fun i => ?_
      rw [List.getElem?_set]
      by_cases z : a = i
      · subst z; rw [if_pos rfl, if_pos ha]; exact hx.symm
      · rw [if_neg z]
    rw [this]
    conv => rhs; rw [e]
    exact List.perm_append_comm (l₁ := [x])
/-- What holds ahead of each step. -/
structure RightA (w w1 : World) (hb r0 N : Nat) (q : Option Addr) (L c : Nat) (hs : List (Int × Int)) (ts : List SN) (f : List Nat) (wr : World) : Prop where
  heap : SH wr w1.heap.size hb r0 N ts f
  own : OwnI wr w1.heap.size (.slice q L c) hs
  len : hs.length = L
  out : OutL (.slice q L c) f
  perm : (allS ts).Perm hs
  few : N < twoR r0
  below : Below w.heap.size w wr
  size : w1.heap.size ≤ wr.heap.size
  room : w.heap.size ≤ w1.heap.size
/-- .. and when an item was popped, but is in the list still. -/
structure RightC (w w1 : World) (hb r0 N : Nat) (q : Option Addr) (L c : Nat) (hs : List (Int × Int)) (x : Int × Int) (ts : List SN) (f : List Nat) (wr : World) : Prop where
  heap : SH wr w1.heap.size hb r0 N ts f
  own : OwnI wr w1.heap.size (.slice q L c) hs
  len : hs.length = L
  out : OutL (.slice q L c) f
  perm : (x :: allS ts).Perm hs
  few : N < twoR r0
  below : Below w.heap.size w wr
  size : w1.heap.size ≤ wr.heap.size
  room : w.heap.size ≤ w1.heap.size
section
variable {w w1 wr w2 : World} {hb r0 : Nat} {q : Option Addr} {N L c : Nat} {hs : List (Int × Int)} {x : Int × Int} {ts : List SN} {f : List Nat}
theorem RightA.below' (h : RightA w w1 hb r0 N q L c hs ts f wr) (hb2 : Below wr.heap.size wr w2) : RightA w w1 hb r0 N q L c hs ts f w2 :=
  ⟨h.heap.below hb2, h.own.below hb2, h.len, h.out, h.perm, h.few, h.below.trans (hb2.mono h.below.size), Nat.le_trans h.size hb2.size, h.room⟩
theorem RightC.below' (h : RightC w w1 hb r0 N q L c hs x ts f wr) (hb2 : Below wr.heap.size wr w2) : RightC w w1 hb r0 N q L c hs x ts f w2 :=
  ⟨h.heap.below hb2, h.own.below hb2, h.len, h.out, h.perm, h.few, h.below.trans (hb2.mono h.below.size), Nat.le_trans h.size hb2.size, h.room⟩
theorem RightA.short (h : RightA w w1 hb r0 N q L c hs ts f wr) : L ≤ 400 := by
  have h1 := h.perm.length_eq
  have h2 := h.heap.many
  have h3 := h.heap.most
  have h4 := h.len
  omega
theorem RightA.none (h : RightA w w1 hb r0 N q L c hs ts f wr) : ts = [] ↔ L = 0 := by
  rw [← h.heap.good.empty, ← h.len]
  constructor
  · intro e; have := h.perm.length_eq; rw [e] at this; exact this.symm
  · intro e; have := h.perm.length_eq; rw [e] at this; exact List.length_eq_zero_iff.1 this
theorem RightA.pushed (h : RightA w w1 hb r0 N q L c hs ts f wr) (hf : N + 1 < twoR r0) {x0 x1 : Int} {f' : List Nat} (h2 : SH w2 w1.heap.size hb r0 (N + 1) (pushS r0 (x0, x1) ts) f') (s : Step f f' wr w2) (o : Obj) :
    OwnI (w2.alloc o) w1.heap.size (.slice q L c) hs ∧ w1.heap.size ≤ w2.heap.size ∧ ∀ v' wa, OwnI wa w1.heap.size v' (hs ++ [(x0, x1)]) → (w2.alloc o).grownBy wa (Value.slice q L c).ownBlock → (v'.ownBlock = (Value.slice q L c).ownBlock ∨ v'.ownBlock = some (w2.alloc o).heap.size) →
      ∃ q' c', v' = .slice q' (L + 1) c' ∧ RightA w w1 hb r0 (N + 1) q' (L + 1) c' (hs ++ [(x0, x1)]) (pushS r0 (x0, x1) ts) f' wa := by
  obtain ⟨k1, k2⟩ := h.own.step h.out s
  have hs2 : w1.heap.size ≤ w2.heap.size := Nat.le_trans h.size s.chg.size
  have hb2 : Below w.heap.size w w2 := h.below.trans ((h.heap.step h.size s).mono h.room)
  refine ⟨k1.alloc o, hs2, fun v' wa a1 a2 a3 => ?_⟩
  obtain ⟨p', c', e⟩ := OwnE.form (E := EI) (show OwnE EI wa w1.heap.size v' _ from a1)
  rw [List.length_append, h.len] at e
  replace e : v' = .slice p' (L + 1) c' := e
  subst e
  obtain ⟨z1, z2⟩ := (h2.alloc o).grown k2 a2 a3
  have hba : Below w.heap.size w wa := (hb2.alloc hb2.size o).trans (below_of_grown (k1.alloc o) a2 h.room (by simp; omega))
  refine ⟨p', c', rfl, z1, a1, by rw [List.length_append, h.len]; rfl, z2, ?_, hf, hba, ?_, h.room⟩
  · have := (h.heap.good.push (x0, x1)).2
    refine this.trans ?_
    exact (List.Perm.cons _ h.perm).trans (List.perm_append_comm (l₁ := [(x0, x1)]))
  · have := a2.size; simp at this; omega
theorem RightA.popped (h : RightA w w1 hb r0 N q L c hs ts f wr) {f' : List Nat} (hp : (x :: allS (popS ts)).Perm (allS ts)) (h2 : SH w2 w1.heap.size hb r0 N (popS ts) f') (s : Step f f' wr w2) : RightC w w1 hb r0 N q L c hs x (popS ts) f' w2 := by
  obtain ⟨k1, k2⟩ := h.own.step h.out s
  exact ⟨h2, k1, h.len, k2, hp.trans h.perm, h.few, h.below.trans ((h.heap.step h.size s).mono h.room), Nat.le_trans h.size s.chg.size, h.room⟩
/-- What is popped is least, and its key is right. -/
theorem RightA.least (h : RightA w w1 hb r0 N q L c hs ts f wr) {k : Int} {r m : Nat} {is : List (Int × Int)} {a b : SN} (e : ts[atS ts ts.length]? = some (.node k r m (x :: is) a b)) (h1 : r ≤ r0 → x.1 = k) (h2 : ∀ t ∈ ts, k ≤ t.key) : x.1 = k ∧ ∀ y ∈ hs, k ≤ y.1 := by
  have hr := h.heap.good.ranks h.few
  refine ⟨h1 (hr _ (List.mem_of_getElem? e)), fun y hy => ?_⟩
  obtain ⟨t, ht, hyt⟩ := mem_allS (h.perm.mem_iff.2 hy)
  exact Int.le_trans (h2 t ht) (good_right (h.heap.good.good t ht).1 (hr t ht) y hyt)
theorem RightC.found (h : RightC w w1 hb r0 N q L c hs x ts f wr) : 0 ≤ lastI hs x L ∧ lastI hs x L < L ∧ hs[(lastI hs x L).toNat]? = some x := by
  have hm : x ∈ hs := h.perm.mem_iff.1 List.mem_cons_self
  obtain ⟨i, hi, e⟩ := List.getElem_of_mem hm
  have h0 := lastI_some hs x L i (by rw [← h.len]; exact hi) (by rw [List.getElem?_eq_getElem hi, e])
  exact ⟨h0, (lastI_lt hs x L).1, lastI_get hs x L h0⟩
theorem RightC.wrong (h : RightC w w1 hb r0 N q L c hs x ts f wr) : wrongS ts = 0 := h.heap.good.none_wrong h.few
/-- The list's last item is put in its place, and the list is one shorter. -/
theorem RightC.done {g m : Nat} (h : RightC w w1 hb r0 N (some ⟨g, 0, none⟩) (m + 1) c hs x ts f wr) {a : Nat} {y0 y1 : Int} (hx : hs[a]? = some x) (hy : hs[m]? = some (y0, y1)) :
    RightA w w1 hb r0 N (some ⟨g, 0, none⟩) m c ((hs.set a (y0, y1)).take m) ts f ((wr.setCell ⟨g, a * 2, none⟩ (.int .i64 y0)).setCell ⟨g, a * 2 + 1, none⟩ (.int .i64 y1)) := by
  have ha : a < m + 1 := by have := (List.getElem?_eq_some_iff.1 hx).1; rw [h.len] at this; exact this
  have hE : OwnE EI wr w1.heap.size (.slice (some ⟨g, 0, none⟩) (m + 1) c) hs := h.own
  have hs1 := (hE.stretch (i := a) (zs := [(y0, y1)]) (by simp; omega)).cut (m := m) (by omega)
  have e1 : hs.take a ++ ([(y0, y1)] ++ hs.drop (a + [(y0, y1)].length)) = hs.set a (y0, y1) := by
    rw [List.set_eq_take_append_cons_drop, if_pos (by rw [h.len]; exact ha)]
    rfl
  rw [e1] at hs1
  have e2 : wr.setCells g (a * EI.K) (EI.flat [(y0, y1)]) = (wr.setCell ⟨g, a * 2, none⟩ (.int .i64 y0)).setCell ⟨g, a * 2 + 1, none⟩ (.int .i64 y1) := rfl
  rw [e2] at hs1
  have hgb : w1.heap.size ≤ g := (World.ownsRow.lt h.own g rfl).1
  have hc : Chg (fun j => j = g) wr ((wr.setCell ⟨g, a * 2, none⟩ (.int .i64 y0)).setCell ⟨g, a * 2 + 1, none⟩ (.int .i64 y1)) := ((Chg.refl (fun j => j = g) wr).setCell (p := ⟨g, a * 2, none⟩) (Or.inl rfl) _).setCell (p := ⟨g, a * 2 + 1, none⟩) (Or.inl rfl) _
  refine ⟨h.heap.kept hc (fun j z e => h.out g rfl (e ▸ z)), hs1, ?_, fun k hk => h.out k hk, ?_, h.few, h.below.trans (hc.below (fun j e => by have := h.room; omega) (Nat.le_trans h.room h.size)), ?_, h.room⟩
  · rw [List.length_take, List.length_set, h.len]; omega
  · exact List.Perm.cons_inv (h.perm.trans (out_perm h.len hx hy).symm)
  · rw [size_cell, size_cell]; exact h.size
end
end Go.Proofs.YtmgfinephghmaaaDoor
