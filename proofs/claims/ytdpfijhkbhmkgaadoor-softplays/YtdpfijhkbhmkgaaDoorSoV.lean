/-
  Package soft: fill. (Written by wip/gen/sofill.py.)
-/
import Derived.Test.YtdpfijhkbhmkgaaDoorSoU
namespace Go.Proofs.YtdpfijhkbhmkgaaDoor
open Go.RowKit Go.Sort Go.Proofs

/-- What holds ahead of a round of fill: a node is there that, filled, is T. -/
def FillI (r0 r m : Nat) (T : SN) (v : Value) (f : List Nat) (w : World) (n g : Nat) (wr : World) : Prop :=
  ∃ k is a b f', NdAt wr (.node k r m is a b) v f' ∧ Step f f' w wr ∧ OpenN r0 k r m is a b ∧ fillS (.node k r m is a b) = T ∧ (is ++ (a.all ++ b.all)).length ≤ 1000 ∧ a.size + b.size ≤ g ∧ g ≤ n
/-- A part's items are brought up. -/
theorem fill_next {r0 r m n : Nat} {T : SN} {v : Value} {f f' : List Nat} {w W : World} {g : Nat} {k : Int} {is : List (Int × Int)} {a b : SN} (hO : OpenN r0 k r m is a b) (hT : fillS (.node k r m is a b) = T) (hLn : (is ++ (a.all ++ b.all)).length ≤ 1000) (hg : a.size + b.size ≤ g ∧ g ≤ n)
    (hc : is.length < m ∧ (a.none? = false ∨ b.none? = false)) (hW : NdAt W (.node k r m is (lessS a b) (moreS a b)) v f') (hst : Step f f' w W)
    (IH : ∀ k r m a' b', a'.size + b'.size < n → OpenN r0 k r m [] a' b' → (a'.all ++ b'.all).length ≤ 1000 → FillOK (.node k r m [] a' b')) :
    Calls Tryd.prog 41 #[v] W fun e w' => e = .returned (.tuple #[]) ∧ FillI r0 r m T v f w n (g - 1) w' ∧ 0 < g := by
  obtain ⟨ka, ra, wa, ia, la, lb, e⟩ := less_node hc.2
  obtain ⟨o1, o2, o3, o4, o5, o6⟩ := open_next hO hc e
  rw [e] at hW
  have hal := (less_all a b).length_eq
  rw [e, SN.all_node] at hal
  simp only [List.length_append] at hLn hal o6
  refine (takeLeft_any hW hst.nodup o2 (by omega) (fun _ => IH ka ra wa la lb (by omega) o3 (by rw [List.length_append]; omega))).mono ?_
  rintro e' w' ⟨rfl, f2, h1, h2⟩
  refine ⟨rfl, ⟨ka, is ++ ia, _, _, f2, h1, hst.trans h2, o1, ?_, ?_, by omega, by omega⟩, by omega⟩
  · rw [← hT, fillS_step hO.wants hc e]
  · simp only [List.length_append]; omega
/-- The parts have changed places. -/
theorem nd_swap {w W : World} {nb : Nat} {iv va vb : Value} {k : Int} {r m : Nat} {is : List (Int × Int)} {a b : SN} {fi fa fb f : List Nat} (hN : Nb W nb iv k r m vb va) (hI : ItsAt w iv is fi) (hA : NdAt w a va fa) (hB : NdAt w b vb fb) (hp : f.Perm (nb :: (fi ++ (fa ++ fb)))) (hf : f.Nodup) (hc : Chg (fun j => j = nb) w W) :
    NdAt W (.node k r m is b a) (.pointer (some ⟨nb, 0, none⟩)) f ∧ Step f f w W := by
  obtain ⟨⟨n1, n2, n3⟩, _⟩ := nd4.1 (hp.nodup_iff.1 hf)
  refine ⟨nd_node.2 ⟨nb, iv, vb, va, fi, fb, fa, rfl, hN, hI.kept hc (fun j q e => n1 (e ▸ q)), hB.kept hc (fun j q e => n3 (e ▸ q)), hA.kept hc (fun j q e => n2 (e ▸ q)), hp.trans (List.Perm.cons _ (List.Perm.append_left _ List.perm_append_comm))⟩, hf, fun _ q => Or.inl q, hc.mono fun j e => Or.inl (by rw [e]; exact hp.symm.subset List.mem_cons_self)⟩
theorem less_swap {a b : SN} (h : swapS a b = true) : lessS a b = b ∧ moreS a b = a := by unfold lessS moreS; rw [if_pos h, if_pos h]; exact ⟨rfl, rfl⟩
theorem less_same {a b : SN} (h : swapS a b = false) : lessS a b = a ∧ moreS a b = b := by unfold lessS moreS; rw [h]; exact ⟨rfl, rfl⟩
theorem swap_two {ka kb : Int} {ra ma rb mb : Nat} {ia ib : List (Int × Int)} {a1 a2 b1 b2 : SN} {q : Bool} (h : decide (kb < ka) = q) : swapS (.node ka ra ma ia a1 a2) (.node kb rb mb ib b1 b2) = q := by
  show (false || (!false && decide (kb < ka))) = q
  rw [h]
  cases q <;> rfl
theorem hid {p : Prop} (h : p) : Hid p := h
set_option maxHeartbeats 8000000 in
theorem fill_any (r0 : Nat) : ∀ (n : Nat) (k : Int) (r m : Nat) (is : List (Int × Int)) (a b : SN), a.size + b.size ≤ n → OpenN r0 k r m is a b → (is ++ (a.all ++ b.all)).length ≤ 1000 → FillOK (.node k r m is a b) := by
  intro n
  induction n using Nat.strongRecOn with
  | _ n ih =>
  intro k0 r m is0 a0 b0 hn0 hO0 hL0 w v f hNd0 hf0
  have IH : Hid (∀ k r m a' b', a'.size + b'.size < n → OpenN r0 k r m [] a' b' → (a'.all ++ b'.all).length ≤ 1000 → FillOK (.node k r m [] a' b')) := fun k r m a' b' h1 h2 h3 => ih _ h1 k r m [] a' b' (Nat.le_refl _) h2 (by simpa using h3)
  obtain ⟨T, hT0⟩ : ∃ T, fillS (.node k0 r m is0 a0 b0) = T ∧ FillI r0 r m T v f w n n w := ⟨_, rfl, k0, is0, a0, b0, f, hNd0, Step.refl w hf0, hO0, rfl, hL0, hn0, Nat.le_refl _⟩
  obtain ⟨nb, rfl⟩ : ∃ nb, v = .pointer (some ⟨nb, 0, none⟩) := by obtain ⟨nb, _, _, _, _, _, _, e, _⟩ := nd_node.1 hNd0; exact ⟨nb, e⟩
  rw [hT0.1]
  have HT0 := hid (hT0.2)
  clear hT0 hNd0 hf0 hO0 hL0 ih hn0
  go_enter Tryd.func30, Tryd.ntmps30
  go_wp2_with fail
  go_loopg [] n (fun g wr => FillI r0 r m T (.pointer (some ⟨nb, 0, none⟩)) f w n g wr)
  case atStart => exact HT0.out
  case round =>
    clear HT0
    obtain ⟨k, is, a, b, f', hNd, hSt, hO, hT, hLn, hg⟩ := hrel
    obtain ⟨nb', iv, va, vb, fi, fa, fb, e0, hN, hI, hA, hB, hp⟩ := nd_node.1 hNd
    obtain rfl : nb = nb' := by simpa using e0
    clear e0
    obtain ⟨p, c, rfl⟩ := hI.1.form
    obtain ⟨L, hL⟩ : ∃ L, is.length = L := ⟨_, rfl⟩
    rw [hL] at hN hI
    obtain ⟨c0, c1, c2, c3, c4, c5⟩ := hN.cells
    have HNd := hid (hNd)
    have HSt := hid (hSt)
    have HO := hid (hO)
    have HT := hid (hT)
    have HLn := hid (hLn)
    have HN := hid (hN)
    have HI := hid (hI)
    have HP := hid (hp)
    have HL := hid (hL)
    have HG : Hid (a.size + b.size ≤ gk ∧ gk ≤ n) := hg
    have f4 := hN.fr 4
    have f5 := hN.fr 5
    clear hNd hSt hO hT hLn hN hI hp hL hg
    by_cases hlt : L < m
    · have hlz : (L : Int) < (m : Int) := by omega
      cases a using SN.parts with
      | nil =>
        obtain ⟨rfl, rfl⟩ := nd_nil.1 hA
        cases b using SN.parts with
        | nil =>
          obtain ⟨rfl, rfl⟩ := nd_nil.1 hB
          have ch : ∀ q, Calls Tryd.prog 29 #[.pointer (some ⟨nb, 0, none⟩)] (wr.drewN q) fun e w' => e = .returned (.bool false) ∧ w' = wr.drewN q := fun q => hasPart_any (w := wr.drewN q) HN.out
          clear hA hB
          go_wp2_with fail
          go_quiet (first | (go_at_call 29; refine Calls.quiet_of_same (ch _)))
          go_wp2
          refine bodyPost_end (results_none rfl _ _ _) rfl ?_
          refine ⟨rfl, f', ?_, HSt.out.trans (Step.below HSt.out.nodup ⟨rfl, rfl, rfl, Nat.le_refl _, fun _ _ => rfl⟩)⟩
          rw [← HT.out, fillS_stop (by simp [SN.none?])]
          exact NdAt.below HNd.out ⟨rfl, rfl, rfl, Nat.le_refl _, fun _ _ => rfl⟩
        | node kb rb mb ib b1 b2 =>
          obtain ⟨jb, ivb, vb1, vb2, _, _, _, rfl, hNb, hrb⟩ := nd_node.1 hB
          obtain ⟨_, kcb, _⟩ := hNb.cells
          clear hNb hrb
          have ch : ∀ q, Calls Tryd.prog 29 #[.pointer (some ⟨nb, 0, none⟩)] (wr.drewN q) fun e w' => e = .returned (.bool true) ∧ w' = wr.drewN q := fun q => hasPart_any (w := wr.drewN q) HN.out
          have hsw : Hid (swapS SN.nil (SN.node kb rb mb ib b1 b2) = true) := rfl
          have hpt : Hid (is.length < m ∧ (SN.nil.none? = false ∨ (SN.node kb rb mb ib b1 b2).none? = false)) := ⟨by rw [HL.out]; exact hlt, Or.inr rfl⟩
          have HA := hid (hA)
          have HB := hid (hB)
          clear hA hB
          go_wp2_with fail
          go_quiet (first | (go_at_call 29; refine Calls.quiet_of_same (ch _)))
          go_wp2_with fail
          go_quiet (fail)
          go_wp2_with fail
          go_region
          have key : ∀ q, NdAt (((wr.drewN q).setCell ⟨nb, 4, none⟩ (.pointer (some ⟨jb, 0, none⟩))).setCell ⟨nb, 5, none⟩ (.pointer none)) _ (.pointer (some ⟨nb, 0, none⟩)) f' ∧ Step f' f' wr (((wr.drewN q).setCell ⟨nb, 4, none⟩ (.pointer (some ⟨jb, 0, none⟩))).setCell ⟨nb, 5, none⟩ (.pointer none)) := fun q => nd_swap (w := wr) ((Nb.put4 (w := wr.drewN q) HN.out _).put5 _) HI.out HA.out HB.out HP.out HSt.out.nodup ((((Chg.refl (fun j => j = nb) wr).dn q).setCell (p := ⟨nb, 4, none⟩) (Or.inl rfl) _).setCell (p := ⟨nb, 5, none⟩) (Or.inl rfl) _)
          have KEY := hid key
          clear key
          go_wp2_with fail
          refine (fill_next (f := f) (w := w) HO.out HT.out HLn.out HG.out hpt.out (by rw [(less_swap hsw.out).1, (less_swap hsw.out).2]; exact (KEY.out _).1) (HSt.out.trans (KEY.out _).2) IH.out).mono ?_
          rintro e w2 ⟨rfl, hnx, hg0⟩
          have HX := hid hnx
          clear hnx
          go_wp2
          go_roundg (gk - 1)
          case measure => omega
          case rel => exact HX.out
      | node ka ra ma ia a1 a2 =>
        obtain ⟨ja, iva, va1, va2, _, _, _, rfl, hNa, hra⟩ := nd_node.1 hA
        obtain ⟨_, kca, _⟩ := hNa.cells
        clear hNa hra
        cases b using SN.parts with
        | nil =>
          obtain ⟨rfl, rfl⟩ := nd_nil.1 hB
          have ch : ∀ q, Calls Tryd.prog 29 #[.pointer (some ⟨nb, 0, none⟩)] (wr.drewN q) fun e w' => e = .returned (.bool true) ∧ w' = wr.drewN q := fun q => hasPart_any (w := wr.drewN q) HN.out
          have hsw : Hid (swapS (SN.node ka ra ma ia a1 a2) SN.nil = false) := rfl
          have hpt : Hid (is.length < m ∧ ((SN.node ka ra ma ia a1 a2).none? = false ∨ SN.nil.none? = false)) := ⟨by rw [HL.out]; exact hlt, Or.inl rfl⟩
          have HA := hid (hA)
          have HB := hid (hB)
          clear hA hB
          go_wp2_with fail
          go_quiet (first | (go_at_call 29; refine Calls.quiet_of_same (ch _)))
          go_wp2_with fail
          go_quiet (fail)
          go_wp2_with fail
          have key : ∀ q, NdAt (wr.drewN q) _ (.pointer (some ⟨nb, 0, none⟩)) f' ∧ Step f' f' wr (wr.drewN q) := fun q => ⟨NdAt.below HNd.out ⟨rfl, rfl, rfl, Nat.le_refl _, fun _ _ => rfl⟩, Step.below HSt.out.nodup ⟨rfl, rfl, rfl, Nat.le_refl _, fun _ _ => rfl⟩⟩
          refine (fill_next (f := f) (w := w) HO.out HT.out HLn.out HG.out hpt.out (by rw [(less_same hsw.out).1, (less_same hsw.out).2]; exact (key _).1) (HSt.out.trans (key _).2) IH.out).mono ?_
          rintro e w2 ⟨rfl, hnx, hg0⟩
          have HX := hid hnx
          clear hnx
          go_wp2
          go_roundg (gk - 1)
          case measure => omega
          case rel => exact HX.out
        | node kb rb mb ib b1 b2 =>
          obtain ⟨jb, ivb, vb1, vb2, _, _, _, rfl, hNb, hrb⟩ := nd_node.1 hB
          obtain ⟨_, kcb, _⟩ := hNb.cells
          clear hNb hrb
          by_cases hkk : kb < ka
          · have hkd : decide (kb < ka) = true := decide_eq_true hkk
            have ch : ∀ q, Calls Tryd.prog 29 #[.pointer (some ⟨nb, 0, none⟩)] (wr.drewN q) fun e w' => e = .returned (.bool true) ∧ w' = wr.drewN q := fun q => hasPart_any (w := wr.drewN q) HN.out
            have hsw : Hid (swapS (SN.node ka ra ma ia a1 a2) (SN.node kb rb mb ib b1 b2) = true) := swap_two hkd
            have hpt : Hid (is.length < m ∧ ((SN.node ka ra ma ia a1 a2).none? = false ∨ (SN.node kb rb mb ib b1 b2).none? = false)) := ⟨by rw [HL.out]; exact hlt, Or.inr rfl⟩
            have HA := hid (hA)
            have HB := hid (hB)
            clear hA hB
            go_wp2_with fail
            go_quiet (first | (go_at_call 29; refine Calls.quiet_of_same (ch _)))
            go_wp2_with fail
            go_quiet (fail)
            go_wp2_with fail
            go_region
            have key : ∀ q, NdAt (((wr.drewN q).setCell ⟨nb, 4, none⟩ (.pointer (some ⟨jb, 0, none⟩))).setCell ⟨nb, 5, none⟩ (.pointer (some ⟨ja, 0, none⟩))) _ (.pointer (some ⟨nb, 0, none⟩)) f' ∧ Step f' f' wr (((wr.drewN q).setCell ⟨nb, 4, none⟩ (.pointer (some ⟨jb, 0, none⟩))).setCell ⟨nb, 5, none⟩ (.pointer (some ⟨ja, 0, none⟩))) := fun q => nd_swap (w := wr) ((Nb.put4 (w := wr.drewN q) HN.out _).put5 _) HI.out HA.out HB.out HP.out HSt.out.nodup ((((Chg.refl (fun j => j = nb) wr).dn q).setCell (p := ⟨nb, 4, none⟩) (Or.inl rfl) _).setCell (p := ⟨nb, 5, none⟩) (Or.inl rfl) _)
            have KEY := hid key
            clear key
            go_wp2_with fail
            refine (fill_next (f := f) (w := w) HO.out HT.out HLn.out HG.out hpt.out (by rw [(less_swap hsw.out).1, (less_swap hsw.out).2]; exact (KEY.out _).1) (HSt.out.trans (KEY.out _).2) IH.out).mono ?_
            rintro e w2 ⟨rfl, hnx, hg0⟩
            have HX := hid hnx
            clear hnx
            go_wp2
            go_roundg (gk - 1)
            case measure => omega
            case rel => exact HX.out
          · have hkd : decide (kb < ka) = false := decide_eq_false hkk
            have ch : ∀ q, Calls Tryd.prog 29 #[.pointer (some ⟨nb, 0, none⟩)] (wr.drewN q) fun e w' => e = .returned (.bool true) ∧ w' = wr.drewN q := fun q => hasPart_any (w := wr.drewN q) HN.out
            have hsw : Hid (swapS (SN.node ka ra ma ia a1 a2) (SN.node kb rb mb ib b1 b2) = false) := swap_two hkd
            have hpt : Hid (is.length < m ∧ ((SN.node ka ra ma ia a1 a2).none? = false ∨ (SN.node kb rb mb ib b1 b2).none? = false)) := ⟨by rw [HL.out]; exact hlt, Or.inr rfl⟩
            have HA := hid (hA)
            have HB := hid (hB)
            clear hA hB
            go_wp2_with fail
            go_quiet (first | (go_at_call 29; refine Calls.quiet_of_same (ch _)))
            go_wp2_with fail
            go_quiet (fail)
            go_wp2_with fail
            have key : ∀ q, NdAt (wr.drewN q) _ (.pointer (some ⟨nb, 0, none⟩)) f' ∧ Step f' f' wr (wr.drewN q) := fun q => ⟨NdAt.below HNd.out ⟨rfl, rfl, rfl, Nat.le_refl _, fun _ _ => rfl⟩, Step.below HSt.out.nodup ⟨rfl, rfl, rfl, Nat.le_refl _, fun _ _ => rfl⟩⟩
            refine (fill_next (f := f) (w := w) HO.out HT.out HLn.out HG.out hpt.out (by rw [(less_same hsw.out).1, (less_same hsw.out).2]; exact (key _).1) (HSt.out.trans (key _).2) IH.out).mono ?_
            rintro e w2 ⟨rfl, hnx, hg0⟩
            have HX := hid hnx
            clear hnx
            go_wp2
            go_roundg (gk - 1)
            case measure => omega
            case rel => exact HX.out
    · have hlz : ¬ (L : Int) < (m : Int) := by omega
      have hld : decide (L < m) = false := decide_eq_false hlt
      have hlzd : decide ((L : Int) < (m : Int)) = false := decide_eq_false hlz
      clear hA hB
      go_wp2_with fail
      go_quiet (fail)
      go_wp2
      refine bodyPost_end (results_none rfl _ _ _) rfl ?_
      refine ⟨rfl, f', ?_, HSt.out.trans (Step.below HSt.out.nodup ⟨rfl, rfl, rfl, Nat.le_refl _, fun _ _ => rfl⟩)⟩
      rw [← HT.out, fillS_stop (by rw [HL.out]; omega)]
      exact NdAt.below HNd.out ⟨rfl, rfl, rfl, Nat.le_refl _, fun _ _ => rfl⟩
#print axioms fill_any
end Go.Proofs.YtdpfijhkbhmkgaaDoor
