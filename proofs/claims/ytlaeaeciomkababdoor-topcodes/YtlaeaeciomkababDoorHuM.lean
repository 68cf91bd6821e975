/-
  Package huff: what found holds in memory: the lengths, the queue of groups, where the groups' symbols stand.
-/
import Derived.Test.YtlaeaeciomkababDoorHQU
import Derived.Test.YtlaeaeciomkababDoorHuPl
import Derived.Test.YtlaeaeciomkababDoorConcZ
namespace Go.Proofs.YtlaeaeciomkababDoor
open Go.RowKit Go.Sort Go.Proofs

theorem turnU_val (tb : Int → Sv) (x : Int × Int) : valU tb x = (x.2, turnU x, tb (turnU x)) := rfl
/-- The numbers l stand where s says, apart from the blocks f and lb. -/
def SyAt (w : World) (lb : Nat) (f : List Nat) (s : Sv) (l : List Int) : Prop := ∃ b cp, s = (some ⟨b, 0, none⟩, l.length, cp) ∧ l.length ≤ cp ∧ RdE EZ w b 0 l ∧ b ∉ f ∧ b ≠ lb
section
variable {w w' : World} {lb : Nat} {f f' : List Nat} {s : Sv} {l : List Int}
theorem SyAt.step (h : SyAt w lb f s l) (st : Step f f' w w') : SyAt w' lb f' s l := by
  obtain ⟨b, cp, e, hc, hr, h1, h2⟩ := h
  refine ⟨b, cp, e, hc, hr.block st.chg.size (st.chg.block b hr.1 h1), fun q => ?_, h2⟩
  rcases st.sub b q with z | z
  · exact h1 z
  · have := hr.1; omega
theorem SyAt.below (h : SyAt w lb f s l) (hb : Below w.heap.size w w') : SyAt w' lb f s l := by
  obtain ⟨b, cp, e, hc, hr, h1, h2⟩ := h
  exact ⟨b, cp, e, hc, hr.below hb hr.1, h1, h2⟩
theorem SyAt.set (h : SyAt w lb f s l) (i : Nat) (u : Value) : SyAt (w.setCell ⟨lb, i, none⟩ u) lb f s l := by
  obtain ⟨b, cp, e, hc, hr, h1, h2⟩ := h
  exact ⟨b, cp, e, hc, hr.block (by rw [size_cell]; exact Nat.le_refl _) (Below.heap_setCell _ _ _ _ h2), h1, h2⟩
theorem SyAt.sl (h : SyAt w lb f s l) : SlE EZ w (.slice s.1 s.2.1 s.2.2) l := by
  obtain ⟨b, cp, rfl, hc, hr, _, _⟩ := h
  exact SlE.of_rd hr rfl hc
end
/-- A turn's symbols, as numbers. -/
def syZ (sy : Nat → List Nat) (x : Int × Int) : List Int := (sy (turnU x).toNat).map fun s : Nat => (s : Int)
structure FdM (w0 w : World) (lb qb : Nat) (L : List Int) (d : Array (Int × Int)) (tb : Int → Sv) (sy : Nat → List Nat) (f : List Nat) : Prop where
  q : QE EU 113 w qb 40 (d.toList.map (valU tb)) f
  nd : f.Nodup
  lens : WrE EZ w lb 0 L
  lf : lb ∉ f
  base : ∀ j ∈ f, w0.heap.size ≤ j
  lbase : w0.heap.size ≤ lb
  below : Below w0.heap.size w0 w
  syms : ∀ x ∈ d.toList, SyAt w lb f (tb (turnU x)) (syZ sy x)
section
variable {w0 w w' : World} {lb qb : Nat} {L : List Int} {d : Array (Int × Int)} {tb : Int → Sv} {sy : Nat → List Nat} {f f' : List Nat}
theorem FdM.lt (h : FdM w0 w lb qb L d tb sy f) : ∀ j ∈ f, j < w.heap.size := h.q.lt
theorem FdM.move {d' : Array (Int × Int)} (h : FdM w0 w lb qb L d tb sy f) (q : QE EU 113 w' qb 40 (d'.toList.map (valU tb)) f') (st : Step f f' w w') (hd : ∀ x ∈ d'.toList, x ∈ d.toList ∨ SyAt w lb f (tb (turnU x)) (syZ sy x)) : FdM w0 w' lb qb L d' tb sy f' := by
  have hlw := h.lens.lt
  have hs0 := h.below.size
  refine ⟨q, st.nodup, h.lens.block st.chg.size (st.chg.block lb hlw h.lf), fun z => ?_, fun j hj => ?_, h.lbase, h.below.trans (st.chg.below h.base hs0), fun x hx => ?_⟩
  · rcases st.sub lb z with y | y
    · exact h.lf y
    · omega
  · rcases st.sub j hj with y | y
    · exact h.base j y
    · omega
  · rcases hd x hx with y | y
    · exact (h.syms x y).step st
    · exact y.step st
theorem FdM.below' (h : FdM w0 w lb qb L d tb sy f) (hb : Below w.heap.size w w') : FdM w0 w' lb qb L d tb sy f :=
  h.move (h.q.below hb) (Step.below h.nd hb) fun _ hx => Or.inl hx
theorem FdM.set (h : FdM w0 w lb qb L d tb sy f) {i : Nat} (hi : i < L.length) (y : Int) : FdM w0 (w.setCell ⟨lb, i, none⟩ (.int .i64 y)) lb qb (L.set i y) d tb sy f := by
  have hc : Chg (· = lb) w (w.setCell ⟨lb, i, none⟩ (.int .i64 y)) := (Chg.refl (· = lb) w).setCell (p := ⟨lb, i, none⟩) (Or.inl rfl) _
  exact ⟨h.q.kept hc fun j hj e => h.lf (by rw [← e]; exact hj), h.nd, h.lens.setInt hi y, h.lf, h.base, h.lbase, h.below.trans (hc.below (fun j e => by rw [e]; exact h.lbase) h.below.size), fun x hx => (h.syms x hx).set i _⟩
/-- Another table that tells the same of what is there. -/
theorem FdM.table {tb' : Int → Sv} {sy' : Nat → List Nat} (h : FdM w0 w lb qb L d tb sy f) (h1 : ∀ x ∈ d.toList, tb' (turnU x) = tb (turnU x)) (h2 : ∀ x ∈ d.toList, sy' (turnU x).toNat = sy (turnU x).toNat) : FdM w0 w lb qb L d tb' sy' f := by
  have e : d.toList.map (valU tb') = d.toList.map (valU tb) := List.map_congr_left fun x hx => by rw [turnU_val, turnU_val, h1 x hx]
  refine ⟨by rw [e]; exact h.q, h.nd, h.lens, h.lf, h.base, h.lbase, h.below, fun x hx => ?_⟩
  have := h.syms x hx
  unfold syZ at this ⊢
  rw [h1 x hx, h2 x hx]
  exact this
theorem goodKU {c : Nat} (hc : c ≤ 999) (hg : ∀ x ∈ d.toList, GoodU c x) : AllP KU d := fun x hx => by
  have := hg x hx
  unfold GoodU turnU at this
  unfold KU bigU
  omega
theorem fd_many (h : FdM w0 w lb qb L d tb sy f) : Calls Tryd.prog 42 #[.pointer (some ⟨qb, 0, none⟩)] w fun e w' => e = .returned (.int .i64 (d.size : Nat)) ∧ w' = w := qManyU h.q
theorem fd_push {c : Nat} {x : Int × Int} (h : FdM w0 w lb qb L d tb sy f) (hs : d.size ≤ 500) (hc : c ≤ 998) (hg : ∀ x ∈ d.toList, GoodU c x) (hx : GoodU (c + 1) x) (hy : SyAt w lb f (tb (turnU x)) (syZ sy x)) :
    Calls Tryd.prog 41 #[.pointer (some ⟨qb, 0, none⟩), vU tb x] w fun e w' => e = .returned (.tuple #[]) ∧ ∃ f', FdM w0 w' lb qb L (hpush d x) tb sy f' ∧ Step f f' w w' := by
  have hgK : AllP KU (d.push x) := (goodKU (c := c) (by omega) hg).push (by
    unfold GoodU turnU at hx
    unfold KU bigU
    omega)
  refine (qPushU h.q h.nd hs fun w2 g _ _ => ⟨KU, hgK, cmpU_any tb w2 g⟩).mono ?_
  rintro e w' ⟨rfl, f', q, st⟩
  refine ⟨rfl, f', h.move q st fun y hy2 => ?_, st⟩
  rcases List.mem_append.1 ((hpush_perm d x).subset hy2) with z | z
  · exact Or.inl z
  · rw [List.mem_singleton.1 z]; exact Or.inr hy
theorem fd_pop {c : Nat} (h : FdM w0 w lb qb L d tb sy f) (h0 : 0 < d.size) (hs : d.size ≤ 500) (hc : c ≤ 999) (hg : ∀ x ∈ d.toList, GoodU c x) :
    Calls Tryd.prog 43 #[.pointer (some ⟨qb, 0, none⟩)] w fun e w' => e = .returned (.tuple #[vU tb d[0]!, .nilIface]) ∧ ∃ f', FdM w0 w' lb qb L (hpop d) tb sy f' ∧ SyAt w' lb f' (tb (turnU d[0]!)) (syZ sy d[0]!) ∧ Step f f' w w' := by
  refine (qPopU h.q h.nd h0 hs fun w2 g _ _ => ⟨KU, goodKU hc hg, cmpU_any tb w2 g⟩).mono ?_
  rintro e w' ⟨rfl, f', q, st⟩
  exact ⟨rfl, f', h.move q st fun y hy2 => Or.inl (pop_mem h0 hy2), (h.syms _ (top_mem h0)).step st, st⟩
end
#print axioms fd_push
#print axioms fd_pop
end Go.Proofs.YtlaeaeciomkababDoor
