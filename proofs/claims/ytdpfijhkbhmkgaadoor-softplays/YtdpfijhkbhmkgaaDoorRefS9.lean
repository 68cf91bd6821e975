/-
  The document's SoftPop: what its steps meet.
-/
import Derived.Test.YtdpfijhkbhmkgaaDoorRefS7
import Derived.Test.YtdpfijhkbhmkgaaDoorSoY
namespace Go.Proofs.YtdpfijhkbhmkgaaDoor
open Go.RowKit Go.Sort Go.Proofs

theorem RepS.key {A : List SC} {ts : List SN} {is f : List Nat} (h : RepS A ts is f) {j : Nat} {t : SN} (e : ts[j]? = some t) (hn : t.none? = false) : ∃ (q : Nat) (c : SC), is[j]? = some q ∧ A[q]? = some c ∧ c.key = t.key := by
  obtain ⟨i, ft, fo, e1, e2, _⟩ := h.at e
  obtain ⟨q, c, e3, _, e4, e5, _⟩ := rep_cell e2 hn
  obtain rfl : i = q := by omega
  exact ⟨i, c, e1, e4, e5⟩
/-- The heap is closed again: what was boxed may have been written. -/
theorem doc_close {wr W9 : World} {base N n g cn cc : Nat} {F : Nat → Prop} {T : List SN} {is f : List Nat} {t : SlW} {Q : List (SC × SlW)} (h1 : CellsAt EC wr base (.slice (some ⟨g, 0, none⟩) cn cc) (FB F N) Q) (h2 : HeapA (plainQ Q) T is f) (h3 : NumX wr (fun j => j = g ∨ FB F N j) t is) (h5 : Q.length + T.length ≤ 2 * n) (hc : Chg (fun j => N ≤ j ∧ j < N + 3) wr W9) : DocS W9 base F (some ⟨g, 0, none⟩, cn, cc) t n T := by
  have hc' : Chg (FB F N) wr W9 := hc.mono fun j z => Or.inl (Or.inr z)
  refine ⟨Q, is, f, h1.foreign hc' (fun j z => Or.inl (Or.inl z)) (fun j z => Nat.lt_of_lt_of_le (h1.low j (Or.inl z)) hc.size), h2, h3.kept hc' (fun j z => Or.inr z) (fun j z => Or.inl ?_), h5⟩
  rcases z with z | z
  · exact Or.inl (Option.some.inj z).symm
  · exact Or.inr (Or.inl z)
/-- When the first item is taken, ahead of what follows. -/
structure PopE (w : World) (base : Nat) (F : Nat → Prop) (N n : Nat) (ts : List SN) (g cn cc tb tn tc i A0 : Nat) (k : Int) (r m : Nat) (l mm : Int) (is : List (Int × Int)) (a b : SN) (p : Option Addr) (sl sc : Nat) (is0 : List Nat) (rk pu : Int) (x0 x1 : Int) (M : Nat) (wr : World) : Prop where
  ex : ∃ Q ft, CellsAt EC wr base (.slice (some ⟨g, 0, none⟩) cn cc) (FB F N) Q ∧ Q[i]? = some (⟨k, r, m, l, mm, is⟩, p, sl, sc) ∧ Rep (plainQ Q) (.node k r m is a b) (i : Int) ft ∧ ft.Nodup ∧ Q.length + ts.length ≤ 2 * n ∧
    (∀ B g' s, Moved (plainQ Q) B ft g' → Rep B s (i : Int) g' → ∃ f, HeapA B (ts.set A0 s) is0 f) ∧ (∀ B g', Moved (plainQ Q) B ft g' → (∀ j ∈ g', ∀ d, B[j]? = some d → d.items = []) → ∃ f, HeapA B (ts.eraseIdx A0) (is0.eraseIdx A0) f)
  num : NumX wr (fun j => j = g ∨ FB F N j) (some ⟨tb, 0, none⟩, tn, tc) is0
  chg : Chg (fun j => j = g) w wr
  box : BlkAt wr N #[.int .i64 rk, .int .i64 pu, .slice (some ⟨g, 0, none⟩) cn cc, .slice (some ⟨tb, 0, none⟩) tn tc]
  res : BlkAt wr (N + 1) #[.int .i64 0, .int .i64 0, .slice none 0 0, .slice none 0 0]
  rit : BlkAt wr (N + 2) #[.int .i64 0, .int .i64 0]
  itm : BlkAt wr M #[.int .i64 x0, .int .i64 x1]
  itl : N + 3 ≤ M ∧ M ≠ g
section
variable {w wr W w' : World} {base N n g cn cc tb tn tc i A0 r m sl sc M r0 : Nat} {F : Nat → Prop} {ts : List SN} {k l mm rk pu x0 x1 : Int} {is : List (Int × Int)} {a b : SN} {p : Option Addr} {is0 : List Nat}
theorem PopE.below (h : PopE w base F N n ts g cn cc tb tn tc i A0 k r m l mm is a b p sl sc is0 rk pu x0 x1 M wr) (hb : Below wr.heap.size wr w') : PopE w base F N n ts g cn cc tb tn tc i A0 k r m l mm is a b p sl sc is0 rk pu x0 x1 M w' := by
  obtain ⟨Q, ft, h1, h2⟩ := h.ex
  exact ⟨⟨Q, ft, h1.below hb, h2⟩, h.num.below hb, h.chg.trans (Chg.of_below (F := fun _ => False) hb) (fun _ z => z.elim), h.box.below hb, h.res.below hb, h.rit.below hb, h.itm.below hb, h.itl⟩
/-- What is read next. -/
theorem PopE.words (h : PopE w base F N n ts g cn cc tb tn tc i A0 k r m l mm is a b p sl sc is0 rk pu x0 x1 M wr) : i < cn ∧ g < wr.heap.size ∧ sl = is.length ∧ wr.cell? ⟨g, i * 6, none⟩ = some (.int .i64 k) ∧ wr.cell? ⟨g, i * 6 + 2, none⟩ = some (.int .i64 (m : Int)) ∧ wr.cell? ⟨g, i * 6 + 3, none⟩ = some (.int .i64 l) ∧ wr.cell? ⟨g, i * 6 + 4, none⟩ = some (.int .i64 mm) ∧ wr.cell? ⟨g, i * 6 + 5, none⟩ = some (.slice p sl sc) := by
  obtain ⟨Q, ft, h1, h2, _⟩ := h.ex
  obtain ⟨w0, _, w2, w3, w4, w5⟩ := h1.words h2
  exact ⟨by rw [← h1.len]; exact (List.getElem?_eq_some_iff.1 h2).1, h1.lt, (h1.its h2).1, w0, w2, w3, w4, w5⟩
/-- It is filled. -/
theorem PopE.fill (h : PopE w base F N n ts g cn cc tb tn tc i A0 k r m l mm is a b p sl sc is0 rk pu x0 x1 M wr) (hO : OpenN r0 k r m is a b) (hall : (is ++ (a.all ++ b.all)).length ≤ 1000) (hp : a.none? = false ∨ b.none? = false) (hN : w.heap.size = N) :
    Calls Tryd.prog 33 #[.slice (some ⟨g, 0, none⟩) cn cc, .int .i64 (i : Int)] wr fun e w' => e = .returned (.tuple #[]) ∧ ∃ p' sl' sc', w'.cell? ⟨g, i * 6 + 5, none⟩ = some (.slice p' sl' sc') ∧ 0 < sl' ∧ g < w'.heap.size ∧
      BlkAt w' N #[.int .i64 rk, .int .i64 pu, .slice (some ⟨g, 0, none⟩) cn cc, .slice (some ⟨tb, 0, none⟩) tn tc] ∧ BlkAt w' (N + 1) #[.int .i64 0, .int .i64 0, .slice none 0 0, .slice none 0 0] ∧ BlkAt w' (N + 2) #[.int .i64 0, .int .i64 0] ∧ BlkAt w' M #[.int .i64 x0, .int .i64 x1] ∧
      ∀ W9, Chg (fun j => N ≤ j ∧ j < N + 3) w' W9 → DocS W9 base F (some ⟨g, 0, none⟩, cn, cc) (some ⟨tb, 0, none⟩, tn, tc) n (ts.set A0 (fillS (.node k r m is a b))) ∧ Chg (fun j => j = g) w W9 := by
  obtain ⟨Q, ft, h1, h2, h3, h4, h5, h6, h7⟩ := h.ex
  refine (rfill_any r0 _ k r m is a b (Nat.le_refl _) hO hall wr base g cn cc (FB F N) Q i ft h1 h3 h4).mono ?_
  rintro e w' ⟨rfl, Q', f', z1, z2, z3, z4⟩
  have hg' : ¬ FB F N g := z1.apart g rfl
  have hno : ∀ j, N ≤ j → j < N + 3 → ¬ j = g := fun j y1 y2 e => hg' (e ▸ Or.inr ⟨y1, y2⟩)
  obtain ⟨i1, _, _, i4, _⟩ := fillS_good r0 _ k r m is a b (Nat.le_refl _) hO (Or.inr hp)
  have hcell : ∃ c s, Q'[i]? = some (c, s) ∧ c.items ≠ [] := by
    cases ht : fillS (.node k r m is a b) using SN.parts with
    | nil => rw [ht] at i4; simp [SN.none?] at i4
    | node k2 r2 m2 is2 a2 b2 =>
      rw [ht] at z2 i1
      obtain ⟨n', l', m', fa, fb, q1, q2, _⟩ := rep_node.1 z2
      obtain rfl : i = n' := by omega
      obtain ⟨s, hs⟩ := plainQ_get q2
      exact ⟨_, s, hs, ((good_node.1 i1).1).many⟩
  obtain ⟨c, ⟨p', sl', sc'⟩, hs, hne⟩ := hcell
  obtain ⟨_, _, _, _, _, w5⟩ := z1.words hs
  have hsl := (z1.its hs).1
  have hlen : Q'.length = Q.length := by have := z3.len; rw [plainQ_length, plainQ_length] at this; exact this
  refine ⟨rfl, p', sl', sc', w5, ?_, z1.lt, h.box.chg z4 (hno N (Nat.le_refl _) (by omega)), h.res.chg z4 (hno _ (by omega) (by omega)), h.rit.chg z4 (hno _ (by omega) (by omega)), h.itm.chg z4 h.itl.2, fun W9 hc => ?_⟩
  · simp only at hsl
    have := List.length_pos_iff.2 hne
    omega
  · obtain ⟨f9, h9⟩ := h6 _ _ _ z3 z2
    have c1 := h.chg.trans z4 (fun j z => Or.inl z)
    exact ⟨doc_close z1 h9 (h.num.kept z4 (fun j z => Or.inl z) (fun j z => Or.inl z)) (by rw [List.length_set, hlen]; exact h5) hc, c1.trans hc (fun j z => Or.inr (by omega))⟩
/-- It is left as it is. -/
theorem PopE.stay (h : PopE w base F N n ts g cn cc tb tn tc i A0 k r m l mm is a b p sl sc is0 rk pu x0 x1 M wr) (hN : w.heap.size = N) : ∀ W9, Chg (fun j => N ≤ j ∧ j < N + 3) wr W9 → DocS W9 base F (some ⟨g, 0, none⟩, cn, cc) (some ⟨tb, 0, none⟩, tn, tc) n (ts.set A0 (.node k r m is a b)) ∧ Chg (fun j => j = g) w W9 := by
  obtain ⟨Q, ft, h1, h2, h3, h4, h5, h6, h7⟩ := h.ex
  intro W9 hc
  obtain ⟨f9, h9⟩ := h6 _ _ _ (Moved.refl h4) h3
  exact ⟨doc_close h1 h9 h.num (by rw [List.length_set]; exact h5) hc, h.chg.trans hc (fun j z => Or.inr (by omega))⟩
/-- It goes. -/
theorem PopE.go (h : PopE w base F N n ts g cn cc tb tn tc i A0 k r m l mm [] .nil .nil p sl sc is0 rk pu x0 x1 M wr) (hN : w.heap.size = N) {p7 : Option Addr} {l7 c7 : Nat} (hb : Below wr.heap.size wr W) (ho : OwnE ET W wr.heap.size (.slice p7 l7 c7) (is0.eraseIdx A0)) : ∀ W9, Chg (fun j => N ≤ j ∧ j < N + 3) W W9 → DocS W9 base F (some ⟨g, 0, none⟩, cn, cc) (p7, l7, c7) n (ts.eraseIdx A0) ∧ Chg (fun j => j = g) w W9 := by
  obtain ⟨Q, ft, h1, h2, h3, h4, h5, h6, h7⟩ := h.ex
  intro W9 hc
  obtain ⟨f9, h9⟩ := h7 _ _ (Moved.refl h4) (fun j hj d hd => by
    obtain ⟨n', l', m', fa, fb, q1, q2, q3, q4, q5⟩ := rep_node.1 h3
    obtain ⟨_, rfl⟩ := rep_nil.1 q3
    obtain ⟨_, rfl⟩ := rep_nil.1 q4
    have := q5.subset hj
    simp only [List.append_nil, List.mem_singleton] at this
    subst this
    rw [q2] at hd
    obtain rfl := Option.some.inj hd
    rfl)
  have hX : NumX W (fun j => j = g ∨ FB F N j) (p7, l7, c7) (is0.eraseIdx A0) := NumX.of_own ho (fun j z => by
    rcases z with z | z
    · have := h1.lt; omega
    · exact h1.low j z)
  have hlt : (ts.eraseIdx A0).length ≤ ts.length := List.length_eraseIdx_le _ _
  exact ⟨doc_close (h1.below hb) h9 hX (by omega) hc, (h.chg.trans (Chg.of_below (F := fun _ => False) hb) (fun _ z => z.elim)).trans hc (fun j z => Or.inr (by omega))⟩
end
end Go.Proofs.YtdpfijhkbhmkgaaDoor
