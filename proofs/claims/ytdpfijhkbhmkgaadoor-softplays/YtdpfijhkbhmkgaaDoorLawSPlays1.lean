/-
  The law SoftPlays: what holds while it goes on.
-/
import Derived.Test.YtdpfijhkbhmkgaaDoorRefS8
import Derived.Test.YtdpfijhkbhmkgaaDoorRefSB
import Derived.Test.YtdpfijhkbhmkgaaDoorSoZ
namespace Go.Proofs.YtdpfijhkbhmkgaaDoor
open Go.RowKit Go.Sort Go.Proofs Go.Lib

/-- The blocks of the package's heap, and the block S. -/
def PF (f : List Nat) (S : Nat) (j : Nat) : Prop := j ∈ f ∨ j = S
/-- What holds while steps are made: the package's heap, and the document's, have the same trees. -/
structure PlayI (w : World) (hb r0 N S : Nat) (c t : SlW) (ts : List SN) (f : List Nat) (wr : World) : Prop where
  heap : SH wr w.heap.size hb r0 N ts f
  doc : DocS wr w.heap.size (PF f S) c t N ts
  box : BlkAt wr S #[.int .i64 (r0 : Int), .int .i64 (N : Int), .slice c.1 c.2.1 c.2.2, .slice t.1 t.2.1 t.2.2]
  out : S ∉ f
  old : w.heap.size ≤ S
  below : Below w.heap.size w wr
theorem DocS.apart {w : World} {base : Nat} {F : Nat → Prop} {c t : SlW} {n : Nat} {ts : List SN} (h : DocS w base F c t n ts) : ∀ j, (Value.slice c.1 c.2.1 c.2.2).ownBlock = some j → ¬ F j ∧ base ≤ j := by
  obtain ⟨Q, is, f, h1, _⟩ := h
  exact fun j e => ⟨h1.apart j e, (World.ownsRow.lt h1.own j e).1⟩
theorem DocS.low {w : World} {base : Nat} {F : Nat → Prop} {c t : SlW} {n : Nat} {ts : List SN} (h : DocS w base F c t n ts) : ∀ j, F j → j < w.heap.size := by
  obtain ⟨Q, is, f, h1, _⟩ := h
  exact h1.low
section
variable {w wr w' : World} {hb r0 N S : Nat} {c t : SlW} {ts : List SN} {f : List Nat}
theorem PlayI.below' (h : PlayI w hb r0 N S c t ts f wr) (hb2 : Below wr.heap.size wr w') : PlayI w hb r0 N S c t ts f w' :=
  ⟨h.heap.below hb2, h.doc.below hb2, h.box.below hb2, h.out, h.old, h.below.trans (hb2.mono h.below.size)⟩
theorem PlayI.counts (h : PlayI w hb r0 N S c t ts f wr) : (allS ts).length ≤ N ∧ N ≤ 400 := ⟨h.heap.many, h.heap.most⟩
/-- The package's heap is used. -/
theorem PlayI.step {f' : List Nat} {ts' : List SN} {N' : Nat} (h : PlayI w hb r0 N S c t ts f wr) (hs : SH w' w.heap.size hb r0 N' ts' f') (s : Step f f' wr w') : SH w' w.heap.size hb r0 N' ts' f' ∧ DocS w' w.heap.size (PF f' S) c t N ts ∧ BlkAt w' S #[.int .i64 (r0 : Int), .int .i64 (N : Int), .slice c.1 c.2.1 c.2.2, .slice t.1 t.2.1 t.2.2] ∧ S ∉ f' ∧ Below w.heap.size w w' := by
  have hS := h.box.lt
  have hout : S ∉ f' := fun z => by
    rcases s.sub S z with q | q
    · exact h.out q
    · omega
  refine ⟨hs, h.doc.foreign (s.chg.mono fun j z => Or.inl (Or.inl z)) (fun j z => ?_) (fun j z => ?_), h.box.kept (s.chg.block S hS h.out), hout, h.below.trans (h.heap.step h.below.size s)⟩
  · rcases z with z | z
    · exact (s.sub j z).imp_left Or.inl
    · exact Or.inl (Or.inr z)
  · rcases z with z | z
    · exact hs.lt j z
    · rw [z]; exact Nat.lt_of_lt_of_le hS s.chg.size
/-- The document's heap is used. -/
theorem play_doc {c' t' : SlW} {ts' : List SN} {N' : Nat} (hs : SH wr w.heap.size hb r0 N' ts' f) (hd : DocS wr w.heap.size (PF f S) c t N ts) (hbx : BlkAt wr S #[.int .i64 (r0 : Int), .int .i64 (N : Int), .slice c.1 c.2.1 c.2.2, .slice t.1 t.2.1 t.2.2]) (hout : S ∉ f) (hold : w.heap.size ≤ S) (hbl : Below w.heap.size w wr)
    (hd' : DocS w' w.heap.size (PF f S) c' t' N' ts') (hc : Chg (fun j => (Value.slice c.1 c.2.1 c.2.2).ownBlock = some j) wr w') :
    BlkAt w' S #[.int .i64 (r0 : Int), .int .i64 (N : Int), .slice c.1 c.2.1 c.2.2, .slice t.1 t.2.1 t.2.2] ∧
      ∀ W, Below w'.heap.size w' W → ∀ W2, W2 = (((W.setCell ⟨S, 0, none⟩ (.int .i64 (r0 : Int))).setCell ⟨S, 1, none⟩ (.int .i64 (N' : Int))).setCell ⟨S, 2, none⟩ (.slice c'.1 c'.2.1 c'.2.2)).setCell ⟨S, 3, none⟩ (.slice t'.1 t'.2.1 t'.2.2) → PlayI w hb r0 N' S c' t' ts' f W2 := by
  have hap := hd.apart
  have hS := hbx.lt
  have hnS : ¬ (Value.slice c.1 c.2.1 c.2.2).ownBlock = some S := fun z => (hap S z).1 (Or.inr rfl)
  have hbx' := hbx.chg hc hnS
  refine ⟨hbx', fun W hW W2 hW2 => ?_⟩
  have hs' : SH w' w.heap.size hb r0 N' ts' f := hs.kept hc (fun j z q => (hap j q).1 (Or.inl z))
  have hbl' : Below w.heap.size w w' := hbl.trans (hc.below (fun j z => (hap j z).2) hbl.size)
  have hst : Chg (fun j => j = S) W W2 := by
    rw [hW2]
    exact ((((Chg.refl (fun j => j = S) W).setCell (p := ⟨S, 0, none⟩) (Or.inl rfl) _).setCell (p := ⟨S, 1, none⟩) (Or.inl rfl) _).setCell (p := ⟨S, 2, none⟩) (Or.inl rfl) _).setCell (p := ⟨S, 3, none⟩) (Or.inl rfl) _
  have hdW := hd'.below hW
  refine ⟨(hs'.below hW).kept hst (fun j z q => hout (q ▸ z)), hdW.foreign (hst.mono fun j z => Or.inl (Or.inr z)) (fun j z => Or.inl z) (fun j z => Nat.lt_of_lt_of_le (hdW.low j z) hst.size), ?_, hout, hold, (hbl'.trans (hW.mono hbl'.size)).trans (hst.below (fun j z => by rw [z]; exact hold) (by have := hbl'.size; have := hW.size; omega))⟩
  rw [hW2]
  have := ((((hbx'.below hW).put 0 (.int .i64 (r0 : Int))).put 1 (.int .i64 (N' : Int))).put 2 (.slice c'.1 c'.2.1 c'.2.2)).put 3 (.slice t'.1 t'.2.1 t'.2.2)
  exact this
end
end Go.Proofs.YtdpfijhkbhmkgaaDoor
