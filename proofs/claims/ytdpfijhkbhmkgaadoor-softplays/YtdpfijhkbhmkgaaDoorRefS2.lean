/-
  The document's fill: what a round does to the cells.
-/
import Derived.Test.YtdpfijhkbhmkgaaDoorRefS1
import Derived.Test.YtdpfijhkbhmkgaaDoorSoF
namespace Go.Proofs.YtdpfijhkbhmkgaaDoor
open Go.RowKit Go.Sort Go.Proofs

/-- A list of one's own lies in no block that was there. -/
theorem SlX.of_own {w : World} {b L c : Nat} {p : Option Addr} {l : List (Int × Int)} {F : Nat → Prop} (h : OwnI w b (.slice p L c) l) (hF : ∀ j, F j → j < b) : SlX w F (p, L, c) l := by
  have hs := OwnI.sl h
  obtain ⟨p', c', e, hc, hr⟩ := hs
  simp only [Value.slice.injEq, List.size_toArray] at e
  obtain ⟨rfl, rfl, rfl⟩ := e
  refine ⟨rfl, by simpa using hc, ?_⟩
  rcases hr with hr | ⟨blk, off, rfl, hr⟩
  · exact Or.inl (List.length_eq_zero_iff.1 (by simpa using hr))
  · refine Or.inr ⟨blk, off, rfl, fun q => ?_, hr⟩
    have h1 := hF blk q
    obtain ⟨_, ⟨h0, _⟩ | ⟨g, cap, cur, e, q1, _⟩⟩ := h
    · simp at h0
    · simp only [Value.slice.injEq, Option.some.injEq, Addr.mk.injEq] at e
      omega
theorem plainQ_at {Q : List (SC × SlW)} {i : Nat} {c : SC} {s : SlW} (h : Q[i]? = some (c, s)) : (plainQ Q)[i]? = some c := by unfold plainQ; rw [List.getElem?_map, h]; rfl
/-- What the row is when a part's items were taken. -/
theorem taken_plain {A : List SC} {Q : List (SC × SlW)} {i ja : Nat} {c d c1 : SC} {m2 : Int} {s s' : SlW} (hA : ∀ X, (plainQ Q).set i X = A.set i X) :
    plainQ (((Q.set i (c1, s)).set i (⟨d.key, c.rank, c.want, ja, m2, c.items ++ d.items⟩, s)).set ja (⟨d.key, d.rank, d.want, d.left, d.right, []⟩, s')) = takenA A i ja c d ja m2 := by
  rw [plainQ_set, plainQ_set, plainQ_set, List.set_set, hA]
  rfl
section
variable {w W : World} {base g n cap : Nat} {F : Nat → Prop} {Q : List (SC × SlW)} {i ja : Nat} {k : Int} {r m : Nat} {l2 m2 : Int} {is : List (Int × Int)} {d : SC} {p p' p3 : Option Addr} {sl sc sl' sc' sl3 sc3 : Nat}
/-- The three words that are written. -/
theorem round_mem (h : CellsAt EC W base (.slice (some ⟨g, 0, none⟩) n cap) F Q) (hne : i ≠ ja) (hi : Q[i]? = some (⟨k, r, m, l2, m2, is⟩, p, sl, sc)) (hj : Q[ja]? = some (d, p', sl', sc')) (hs : SlX W (fun j => j = g ∨ F j) (p3, sl3, sc3) (is ++ d.items)) :
    CellsAt EC (((W.setCell ⟨g, i * 6 + 5, none⟩ (.slice p3 sl3 sc3)).setCell ⟨g, i * 6, none⟩ (.int .i64 d.key)).setCell ⟨g, ja * 6 + 5, none⟩ (.slice none 0 0)) base (.slice (some ⟨g, 0, none⟩) n cap) F
      (((Q.set i (⟨k, r, m, l2, m2, is ++ d.items⟩, p3, sl3, sc3)).set i (⟨d.key, r, m, l2, m2, is ++ d.items⟩, p3, sl3, sc3)).set ja (⟨d.key, d.rank, d.want, d.left, d.right, []⟩, none, 0, 0)) := by
  have hil := (List.getElem?_eq_some_iff.1 hi).1
  have h1 := h.putI hi hs
  have e1 : (Q.set i (⟨k, r, m, l2, m2, is ++ d.items⟩, p3, sl3, sc3))[i]? = some (⟨k, r, m, l2, m2, is ++ d.items⟩, p3, sl3, sc3) := List.getElem?_set_self hil
  have h2 := h1.putK e1 d.key
  refine h2.putI (c := d) (p := p') (sl := sl') (sc := sc') ?_ (SlX.void _ _)
  rw [List.getElem?_set_ne hne, List.getElem?_set_ne hne]
  exact hj
end
/-- What holds ahead of a round. -/
def RFillI (base g N cap : Nat) (F : Nat → Prop) (i r0 r m : Nat) (T : SN) (A0 : List SC) (f0 : List Nat) (w : World) (n gg : Nat) (wr : World) : Prop :=
  ∃ k is a b Q f, CellsAt EC wr base (.slice (some ⟨g, 0, none⟩) N cap) F Q ∧ Rep (plainQ Q) (.node k r m is a b) (i : Int) f ∧ Moved A0 (plainQ Q) f0 f ∧ Chg (fun j => j = g) w wr ∧ OpenN r0 k r m is a b ∧ fillS (.node k r m is a b) = T ∧ (is ++ (a.all ++ b.all)).length ≤ 1000 ∧ a.size + b.size ≤ gg ∧ gg ≤ n
/-- What fill does. -/
def RFillOK (t : SN) : Prop := ∀ (w : World) (base g N cap : Nat) (F : Nat → Prop) (Q : List (SC × SlW)) (i : Nat) (f : List Nat), CellsAt EC w base (.slice (some ⟨g, 0, none⟩) N cap) F Q → Rep (plainQ Q) t (i : Int) f → f.Nodup →
  Calls Tryd.prog 33 #[.slice (some ⟨g, 0, none⟩) N cap, .int .i64 (i : Int)] w fun e w' => e = .returned (.tuple #[]) ∧ ∃ Q' f', CellsAt EC w' base (.slice (some ⟨g, 0, none⟩) N cap) F Q' ∧ Rep (plainQ Q') (fillS t) (i : Int) f' ∧ Moved (plainQ Q) (plainQ Q') f f' ∧ Chg (fun j => j = g) w w'
section
variable {base g N cap : Nat} {F : Nat → Prop} {i r0 r m : Nat} {T : SN} {A0 : List SC} {f0 f : List Nat} {w wr W : World} {n gg : Nat} {k : Int} {is : List (Int × Int)} {a b : SN} {Q Q1 Q4 : List (SC × SlW)} {l mm : Int} {fl fm : List Nat} {ka : Int} {ra wa : Nat} {ia : List (Int × Int)} {la lb : SN} {ja : Nat} {d : SC} {m2 : Int}
/-- The part's items were taken, and it has no parts. -/
theorem rfill_leaf (hMo : Moved A0 (plainQ Q) f0 f) (hO : OpenN r0 k r m is a b) (hT : fillS (.node k r m is a b) = T) (hLn : (is ++ (a.all ++ b.all)).length ≤ 1000) (hg : a.size + b.size ≤ gg ∧ gg ≤ n) (hc : is.length < m ∧ (a.none? = false ∨ b.none? = false)) (e : lessS a b = .node ka ra wa ia la lb)
    (hTk : Taken (plainQ Q) (plainQ Q4) i ja f fl fm ⟨ka, r, m, ja, m2, is ++ ia⟩ (.node ka ra wa [] la lb) (moreS a b) m2) (hC : CellsAt EC W base (.slice (some ⟨g, 0, none⟩) N cap) F Q4) (hch : Chg (fun j => j = g) w W) (hn : (la.none? && lb.none?) = true) :
    RFillI base g N cap F i r0 r m T A0 f0 w n (gg - 1) (W.setCell ⟨g, i * 6 + 3, none⟩ (.int .i64 (-1))) ∧ 0 < gg := by
  obtain ⟨o1, o2, o3, o4, o5, o6⟩ := open_next hO hc e
  have hst := fillS_step hO.wants hc e
  rw [hn, if_pos rfl] at o1 o4 o6 hst
  obtain ⟨q1, q2⟩ : la.none? = true ∧ lb.none? = true := by simpa using hn
  rw [SN.none_iff] at q1 q2
  subst q1 q2
  obtain ⟨t1, t2⟩ := hTk.leaf
  obtain ⟨s, hs⟩ := plainQ_get hTk.cell
  obtain ⟨p, sl, sc⟩ := s
  have hC' := hC.putL hs (-1)
  have ep : plainQ (Q4.set i (⟨ka, r, m, -1, m2, is ++ ia⟩, p, sl, sc)) = (plainQ Q4).set i ⟨ka, r, m, -1, m2, is ++ ia⟩ := plainQ_set _ _ _
  have hgg : 0 < gg := by rw [SN.size_nil] at o4; omega
  refine ⟨⟨ka, is ++ ia, .nil, moreS a b, _, _, hC', by rw [ep]; exact t1, by rw [ep]; exact hMo.trans t2, hch.setCell (p := ⟨g, i * 6 + 3, none⟩) (Or.inl rfl) _, o1, by rw [← hT, hst], ?_, by omega, by omega⟩, hgg⟩
  have := less_all a b
  simp only [List.length_append] at o6 hLn ⊢
  omega
/-- .. and it is filled. -/
theorem rfill_deep (hMo : Moved A0 (plainQ Q) f0 f) (hO : OpenN r0 k r m is a b) (hT : fillS (.node k r m is a b) = T) (hLn : (is ++ (a.all ++ b.all)).length ≤ 1000) (hg : a.size + b.size ≤ gg ∧ gg ≤ n) (hc : is.length < m ∧ (a.none? = false ∨ b.none? = false)) (e : lessS a b = .node ka ra wa ia la lb)
    (hTk : Taken (plainQ Q) (plainQ Q4) i ja f fl fm ⟨ka, r, m, ja, m2, is ++ ia⟩ (.node ka ra wa [] la lb) (moreS a b) m2) (hC : CellsAt EC W base (.slice (some ⟨g, 0, none⟩) N cap) F Q4) (hch : Chg (fun j => j = g) w W) (hn : (la.none? && lb.none?) = false)
    (IH : ∀ k r m a' b', a'.size + b'.size < n → OpenN r0 k r m [] a' b' → (a'.all ++ b'.all).length ≤ 1000 → RFillOK (.node k r m [] a' b')) :
    Calls Tryd.prog 33 #[.slice (some ⟨g, 0, none⟩) N cap, .int .i64 (ja : Int)] W fun e w' => e = .returned (.tuple #[]) ∧ RFillI base g N cap F i r0 r m T A0 f0 w n (gg - 1) w' ∧ 0 < gg := by
  obtain ⟨o1, o2, o3, o4, o5, o6⟩ := open_next hO hc e
  have hst := fillS_step hO.wants hc e
  rw [hn, if_neg (by simp)] at o1 o4 o6 hst
  have hgg : 0 < gg := by omega
  obtain ⟨_, _, nl, _, _⟩ := parted hTk.perm hTk.nodup
  have hall : (la.all ++ lb.all).length ≤ 1000 := by
    have h1 := (less_all a b).length_eq
    rw [e, SN.all_node] at h1
    simp only [List.length_append] at h1 hLn ⊢
    omega
  refine (IH ka ra wa la lb (by omega) o3 hall W base g N cap F Q4 ja fl hC hTk.part nl).mono ?_
  rintro e' w' ⟨rfl, Q', f', c1, c2, c3, c4⟩
  have hpj : ((ja : Nat) : Int) = (ja : Int) := rfl
  obtain ⟨t1, t2⟩ := hTk.deep c3 c2
  refine ⟨rfl, ⟨ka, is ++ ia, _, moreS a b, Q', _, c1, t1, hMo.trans t2, hch.trans c4 (fun j z => Or.inl z), o1, by rw [← hT, hst], ?_, by omega, by omega⟩, hgg⟩
  simp only [List.length_append] at o6 hLn ⊢
  omega
end
end Go.Proofs.YtdpfijhkbhmkgaaDoor
