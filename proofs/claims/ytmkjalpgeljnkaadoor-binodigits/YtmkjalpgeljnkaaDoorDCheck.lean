/-
  bino.Check: what is wrong with a heap of trees.
-/
import Derived.Test.YtmkjalpgeljnkaaDoorDRanks
import Derived.Test.YtmkjalpgeljnkaaDoorDFalls
import Derived.Test.YtmkjalpgeljnkaaDoorCopy
namespace Go.Proofs.YtmkjalpgeljnkaaDoor
open Go.RowKit Go.Sort Go.Proofs

theorem rankE_len : ∀ {h : List (Int × List (Int × Int))} {last : Int}, rankE last h = 0 → last ≤ 5 → (h.length : Int) ≤ 5 - last
  | [], last, _, h5 => by simp; omega
  | (r, l) :: h, last, e, h5 => by
    obtain ⟨h1, _⟩ := rankE_zero e
    have h2 := h1 (r, l) List.mem_cons_self
    simp only at h2
    simp only [rankE] at e
    rw [if_neg (by omega), if_neg (fun q => q.elim (fun a => by omega) (fun a => a h2.2.2.2))] at e
    have := rankE_len e (by omega)
    rw [List.length_cons]
    omega
theorem wrong_small {l : List (Int × Int)} (h : l.length ≤ 60) : wrong l.toArray = if anyOut l.toArray then 1 else 0 := by
  unfold wrong; rw [if_neg (by rw [List.size_toArray]; omega)]
theorem take_all {P : (Int × List (Int × Int)) → Prop} {h : List (Int × List (Int × Int))} {i : Nat} {x : Int × List (Int × Int)} (hx : h[i]? = some x) (ha : ∀ t ∈ h.take i, P t) (hp : P x) : ∀ t ∈ h.take (i + 1), P t := by
  obtain ⟨hi, e⟩ := List.getElem?_eq_some_iff.1 hx
  intro t ht
  rw [List.take_succ_eq_append_getElem hi, e] at ht
  rcases List.mem_append.1 ht with q | q
  · exact ha t q
  · rw [List.mem_singleton.1 q]; exact hp

set_option maxHeartbeats 16000000 in
set_option maxRecDepth 4000 in
theorem dcheck_bad (p : Option Addr) (n cap k : Nat) (h : List (Int × List (Int × Int))) (w : World) (hn : n ≤ 9223372036854775807) (HN : Hid (h.length = n)) (HA : Hid (HpAt w (.slice p n cap) h)) (HL : Hid (∀ t ∈ h, t.2.length ≤ 9223372036854775807)) (h0 : k ≠ 0) (HK : Hid (rankE (-1) h = k)) :
    Calls Tryd.prog 9 #[.slice p n cap] w fun e w' => e = .returned (.iface 56 (.int .i64 k)) ∧ Below w.heap.size w w' := by
  have c1 := ranks_some p n cap h w hn HN HA HL
  rw [HK.out, errV_pos h0] at c1
  go_enter Tryd.func9, Tryd.ntmps9
  go_wp2_with fail
  refine c1.mono ?_
  rintro e w1 ⟨rfl, hb⟩
  go_wp2
  go_ret
  exact ⟨rfl, hb⟩

set_option maxHeartbeats 32000000 in
set_option maxRecDepth 4000 in
theorem dcheck_good (p : Option Addr) (n cap : Nat) (h : List (Int × List (Int × Int))) (w : World) (HN : Hid (h.length = n)) (HA : Hid (HpAt w (.slice p n cap) h)) (HR : Hid (rankE (-1) h = 0)) :
    Calls Tryd.prog 9 #[.slice p n cap] w fun e w' => e = .returned (errV (binoE h)) ∧ Below w.heap.size w w' := by
  have HZ : Hid (∀ t ∈ h, 0 ≤ t.1 ∧ t.1 ≤ 5 ∧ t.2.length = 2 ^ t.1.toNat ∧ t.2.length ≤ 32) := by
    show ∀ t ∈ h, _
    intro t ht
    obtain ⟨_, a, b, c⟩ := (rankE_zero HR.out).1 t ht
    exact ⟨a, b, c, by rw [c]; exact Nat.pow_le_pow_right (show 0 < 2 by omega) (show t.1.toNat ≤ 5 by omega)⟩
  have hn6 : n ≤ 6 := by have := rankE_len HR.out (by omega); rw [HN.out] at this; omega
  have c1 := ranks_some p n cap h w (by omega) HN HA (fun t ht => by have := (HZ.out t ht).2.2.2; omega)
  rw [HR.out, errV_zero] at c1
  go_enter Tryd.func9, Tryd.ntmps9
  go_wp2_with fail
  refine c1.mono ?_
  rintro e w1 ⟨rfl, hb1⟩
  clear c1
  go_wp2
  go_loopg [4, 17] n (fun gg v4 v17 wr => ∃ (i m : Nat), v4 = .int .i64 m ∧ v17 = .int .i64 i ∧ i ≤ n ∧ n - i ≤ gg ∧ m ≤ 32 * i ∧ Hid (m = sizeZ (h.take i)) ∧ Hid (∀ t ∈ h.take i, anyOut t.2.toArray = false) ∧ Hid (Below w.heap.size w wr))
  case atStart => exact ⟨0, 0, rfl, rfl, Nat.zero_le _, by omega, by omega, (show 0 = _ by simp [sizeZ]), (fun t ht => by simp at ht), hb1⟩
  case round =>
    obtain ⟨i, m, rfl, rfl, hin, hg, hm, HM, HO, HB⟩ := hrel
    have hB : w.heap.size ≤ wr.heap.size := HB.out.size
    by_cases hlt : i < n
    · have hlz : (i : Int) < (n : Int) := by omega
      obtain ⟨⟨r, l⟩, hx⟩ : ∃ x, h[i]? = some x := ⟨h[i]'(by rw [HN.out]; omega), by simp⟩
      obtain ⟨blk, off, q, c, rfl, hblk, c0, c1, hsl⟩ := HA.out.tree hx
      have hl32 : l.length ≤ 32 := (HZ.out _ (List.mem_of_getElem? hx)).2.2.2
      have t0 := (HB.out.cell (p := ⟨blk, off + i * 2, none⟩) hblk).trans c0
      have t1 := (HB.out.cell (p := ⟨blk, off + i * 2 + 1, none⟩) hblk).trans c1
      have hbw : blk < wr.heap.size := by omega
      have CC : Hid (∀ W, Below wr.heap.size wr W → Calls Tryd.prog 31 #[.slice q l.length c] W fun e w' => e = .returned (errV (wrong l.toArray)) ∧ Below W.heap.size W w') := fun W hb => check_any _ _ W ((hsl.below HB.out).below hb) (by rw [List.size_toArray]; omega)
      rw [wrong_small (by omega)] at CC
      have HX : Hid (h[i]? = some (r, l)) := hx
      have HBA : Hid (Below wr.heap.size wr (wr.alloc (.cells #[.int .i64 r, .slice q l.length c] 37))) := (Below.refl _ _).alloc (Nat.le_refl _) _
      have HS : Hid (sizeZ (h.take (i + 1)) = m + l.length) := by show _ = _; rw [sizeZ_take_succ hx, ← HM.out]
      cases ho : anyOut l.toArray with
      | true =>
        have HE : Hid (binoE h = 1) := outE_bad HR.out hx ho
        rw [ho] at CC
        simp only [if_true] at CC
        clear hx c0 c1 hsl ho
        generalize l.length = ln at *
        go_wp2_with fail
        refine (CC.out _ HBA.out).mono ?_
        rintro e w2 ⟨rfl, hb2'⟩
        have hb2 := HBA.out.trans (hb2'.mono HBA.out.size)
        have e1 : errV 1 = .iface 56 (.int .i64 1) := rfl
        rw [e1]
        go_wp2
        go_ret
        exact ⟨by rw [HE.out]; rfl, HB.out.trans (hb2.mono hB)⟩
      | false =>
        have HO' : Hid (∀ t ∈ h.take (i + 1), anyOut t.2.toArray = false) := take_all hx HO.out ho
        rw [ho] at CC
        simp only [Bool.false_eq_true, if_false] at CC
        clear hx c0 c1 hsl ho
        generalize l.length = ln at *
        go_wp2_with fail
        refine (CC.out _ HBA.out).mono ?_
        rintro e w2 ⟨rfl, hb2'⟩
        have hb2 := HBA.out.trans (hb2'.mono HBA.out.size)
        have y1 : w2.cell? ⟨wr.heap.size, 1, none⟩ = some (.slice q ln c) := (hb2'.cell (p := ⟨wr.heap.size, 1, none⟩) (by simp)).trans (by simp)
        have e0 : errV 0 = .nilIface := rfl
        have hw : IntKind.i64.wrap ((m : Int) + (ln : Int)) = (m : Int) + (ln : Int) := by rw [IntKind.wrap_i64]; omega
        rw [e0]
        clear hb2'
        go_wp2
        go_roundg (n - (i + 1))
        case measure => omega
        case rel => exact ⟨i + 1, m + ln, by go_num, by go_num, by omega, Nat.le_refl _, by omega, HS.out.symm, HO', HB.out.trans (hb2.mono hB)⟩
    · obtain rfl : i = n := by omega
      have HME : Hid (m = sizeZ h) := by show _ = _; have := HM.out; rw [List.take_of_length_le (by rw [HN.out]; omega)] at this; exact this
      have HOE : Hid (outE h = 0) := outE_good (by have := HO.out; rw [List.take_of_length_le (by rw [HN.out]; omega)] at this; exact this)
      clear HM HO
      by_cases h60 : 60 < m
      · have h60z : (60 : Int) < (m : Int) := by omega
        have HE : Hid (binoE h = 4) := by show _ = _; unfold binoE; rw [if_pos HR.out, if_pos HOE.out, if_pos (by rw [← HME.out]; exact h60)]
        go_wp2
        go_ret
        exact ⟨by rw [HE.out]; rfl, HB.out⟩
      · have h60z : ¬ (60 : Int) < (m : Int) := by omega
        have HSZ : Hid (¬ 60 < sizeZ h) := by show ¬ _; rw [← HME.out]; exact h60
        go_wp2
        go_loopg [38] i (fun gg v38 wr => ∃ j : Nat, v38 = .int .i64 j ∧ j ≤ i ∧ i - j ≤ gg ∧ Hid (∀ t ∈ h.take j, keysB t = true) ∧ Hid (Below w.heap.size w wr))
        case atStart => exact ⟨0, rfl, Nat.zero_le _, by omega, (fun t ht => by simp at ht), HB⟩
        case round =>
          obtain ⟨j, rfl, hjn, hg2, HKS, HB2⟩ := hrel
          have hB2 : w.heap.size ≤ wr.heap.size := HB2.out.size
          by_cases hlt2 : j < i
          · have hlz2 : (j : Int) < (i : Int) := by omega
            obtain ⟨⟨r, l⟩, hx⟩ : ∃ x, h[j]? = some x := ⟨h[j]'(by rw [HN.out]; omega), by simp⟩
            obtain ⟨blk, off, q, c, rfl, hblk, c0, c1, hsl⟩ := HA.out.tree hx
            obtain ⟨hr0, hr5, hlr, hl32⟩ := HZ.out _ (List.mem_of_getElem? hx)
            simp only at hr0 hr5 hlr hl32
            have t0 := (HB2.out.cell (p := ⟨blk, off + j * 2, none⟩) hblk).trans c0
            have t1 := (HB2.out.cell (p := ⟨blk, off + j * 2 + 1, none⟩) hblk).trans c1
            have hbw : blk < wr.heap.size := by omega
            have CF : Hid (∀ W, Below wr.heap.size wr W → Calls Tryd.prog 32 #[.slice q l.length c] W fun e w' => e = .returned (.bool (fallB r.toNat l)) ∧ Below W.heap.size W w') := fun W hb => falls_any r.toNat (by omega) _ l W ((hsl.below HB2.out).below hb) hlr
            have HX : Hid (h[j]? = some (r, l)) := hx
            have HBA : Hid (Below wr.heap.size wr (wr.alloc (.cells #[.int .i64 r, .slice q l.length c] 37))) := (Below.refl _ _).alloc (Nat.le_refl _) _
            have HRZ : Hid (((r.toNat : Nat) : Int) = r) := Int.toNat_of_nonneg hr0
            clear hlr
            cases hf : fallB r.toNat l with
            | true =>
              have HE : Hid (binoE h = 3) := keysE_bad HR.out HOE.out HSZ.out hx (by
                unfold fallB at hf
                rw [HRZ.out] at hf
                cases e : keysB (r, l)
                · rfl
                · rw [e] at hf; cases hf)
              rw [hf] at CF
              clear hx c0 c1 hsl hf
              generalize l.length = ln at *
              go_wp2_with fail
              refine (CF.out _ HBA.out).mono ?_
              rintro e w2 ⟨rfl, hb2'⟩
              have hb2 := HBA.out.trans (hb2'.mono HBA.out.size)
              go_wp2
              go_ret
              exact ⟨by rw [HE.out]; rfl, HB2.out.trans (hb2.mono hB2)⟩
            | false =>
              have HKS' : Hid (∀ t ∈ h.take (j + 1), keysB t = true) := take_all (P := fun t => keysB t = true) hx HKS.out (by
                unfold fallB at hf
                rw [HRZ.out] at hf
                cases e : keysB (r, l)
                · rw [e] at hf; cases hf
                · rfl)
              rw [hf] at CF
              clear hx c0 c1 hsl hf
              generalize l.length = ln at *
              go_wp2_with fail
              refine (CF.out _ HBA.out).mono ?_
              rintro e w2 ⟨rfl, hb2'⟩
              have hb2 := HBA.out.trans (hb2'.mono HBA.out.size)
              go_wp2
              go_roundg (i - (j + 1))
              case measure => omega
              case rel => exact ⟨j + 1, by go_num, by omega, Nat.le_refl _, HKS', HB2.out.trans (hb2.mono hB2)⟩
          · have hlz2 : ¬ (j : Int) < (i : Int) := by omega
            have HE : Hid (binoE h = 0) := binoE_good HR.out HOE.out HSZ.out (by have := HKS.out; rw [List.take_of_length_le (by rw [HN.out]; omega)] at this; exact this)
            go_wp2
            go_ret
            exact ⟨by rw [HE.out]; rfl, HB2.out⟩
theorem dcheck_any (v : Value) (h : List (Int × List (Int × Int))) (w : World) (HA : HpAt w v h) (hn : h.length ≤ 9223372036854775807) (hl : ∀ t ∈ h, t.2.length ≤ 9223372036854775807) :
    Calls Tryd.prog 9 #[v] w fun e w' => e = .returned (errV (binoE h)) ∧ Below w.heap.size w w' := by
  obtain ⟨p, c, rfl⟩ := HA.form
  by_cases h0 : rankE (-1) h = 0
  · exact dcheck_good p _ c h w rfl HA h0
  · have e : binoE h = rankE (-1) h := by unfold binoE; rw [if_neg h0]
    rw [e, errV_pos h0]
    exact dcheck_bad p _ c _ h w hn rfl HA hl h0 rfl
#print axioms dcheck_any
end Go.Proofs.YtmkjalpgeljnkaaDoor
