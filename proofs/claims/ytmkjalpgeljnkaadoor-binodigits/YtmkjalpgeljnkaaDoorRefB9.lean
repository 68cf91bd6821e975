/-
  The document's heaps of trees: melding two that are right.
-/
import Derived.Test.YtmkjalpgeljnkaaDoorRefB6
import Derived.Test.YtmkjalpgeljnkaaDoorBPop
namespace Go.Proofs.YtmkjalpgeljnkaaDoor
open Go.RowKit Go.Sort Go.Proofs

theorem IsH.len_le : ∀ {g : List TrL}, IsH g → g.length ≤ (itemsH g).length
  | [], _ => Nat.le_refl _
  | t :: g, H => by
    have h1 := IsH.len_le H.tail
    have h2 := (H.trees t List.mem_cons_self).len
    have h3 := two_pos t.1
    rw [itemsH_cons, List.length_append, List.length_cons]
    omega
theorem OkH.len_le {g : List TrL} (H : OkH g) : g.length ≤ 60 := Nat.le_trans H.isH.len_le H.size
theorem HpF.shape {w0 w : World} {v : Value} {h : List TrL} (H : HpF w0 w v h) : ∃ p c, v = .slice p h.length c := by
  obtain ⟨ts, ⟨p, c, e, _⟩, h2, _⟩ := H
  exact ⟨p, c, by rw [← h2]; exact e⟩
theorem binoMeld_ok (va vb : Value) (h1 h2 : List TrL) (F : Option Nat) (w0 w : World) (HA : HpF w0 w va h1) (HB2 : HpF w0 w vb h2) (HW0 : Below w0.heap.size w0 w) (HF0 : ∀ g, F = some g → w0.heap.size ≤ g) (HFW : ∀ g, F = some g → g < w.heap.size) (H1 : OkH h1) (H2 : OkH h2) :
    Calls Tryd.prog 11 #[va, vb] w fun e w' => ∃ u, e = .returned u ∧ (∃ os, OwnE ET w' w.heap.size u os ∧ OutAt F w' u.ownBlock os (meldH h1 h2)) ∧ Below w.heap.size w w' := by
  obtain ⟨pa, ca, ea⟩ := HA.shape
  obtain ⟨pb, cb, eb⟩ := HB2.shape
  subst ea; subst eb
  have l1 := H1.len_le
  have l2 := H2.len_le
  exact binoMeld_some pa pb h1.length ca h2.length cb h1 h2 F w0 w (by omega) (by omega) rfl rfl HA HB2 HW0 HF0 HFW H1.isH H2.isH (fun t q => by have := H1.rank t q; omega) (fun t q => by have := H2.rank t q; omega)
end Go.Proofs.YtmkjalpgeljnkaaDoor
