/-
  Package code: Make.
-/
import Derived.Test.YtlaeaeciomkababDoorCoK
namespace Go.Proofs.YtlaeaeciomkababDoor
open Go.RowKit Go.Sort Go.Proofs

/-- The codes that stand, up to a length and a symbol. -/
def DoneC (ls : List Nat) (m i : Nat) (d : List (List UInt8)) : Prop := d.length = ls.length ∧ ∀ (s a : Nat), ls[s]? = some a → d[s]? = some (if a < m ∨ (a = m ∧ s < i) then codeB ls s else [])
theorem codeB_none {ls : List Nat} {s : Nat} (h : ls[s]? = some 0) : codeB ls s = [] := by rw [codeB_of h]; rfl
theorem DoneC.begin (ls : List Nat) : DoneC ls 1 0 (List.replicate ls.length []) := ⟨by simp, fun s a h => by
  have hs := (List.getElem?_eq_some_iff.1 h).1
  rw [List.getElem?_replicate, if_pos hs]
  congr 1
  split
  · rename_i q
    obtain rfl : a = 0 := by omega
    rw [codeB_none h]
  · rfl⟩
theorem DoneC.next {ls : List Nat} {m : Nat} {d : List (List UInt8)} (h : DoneC ls m ls.length d) : DoneC ls (m + 1) 0 d := ⟨h.1, fun s a hs => by
  have hl := (List.getElem?_eq_some_iff.1 hs).1
  rw [h.2 s a hs]
  congr 1
  by_cases q : a < m ∨ (a = m ∧ s < ls.length)
  · have q2 : a < m + 1 ∨ (a = m + 1 ∧ s < 0) := by omega
    rw [if_pos q, if_pos q2]
  · have q2 : ¬ (a < m + 1 ∨ (a = m + 1 ∧ s < 0)) := by omega
    rw [if_neg q, if_neg q2]⟩
theorem DoneC.hit {ls : List Nat} {m i : Nat} {d : List (List UInt8)} (h : DoneC ls m i d) (hi : ls[i]? = some m) : DoneC ls m (i + 1) (d.set i (codeB ls i)) := ⟨by rw [List.length_set]; exact h.1, fun s a hs => by
  have hl := (List.getElem?_eq_some_iff.1 hi).1
  by_cases e : i = s
  · subst e
    have q2 : a < m ∨ (a = m ∧ i < i + 1) := by rw [hi] at hs; cases hs; omega
    rw [List.getElem?_set_self (by rw [h.1]; exact hl), if_pos q2]
  · rw [List.getElem?_set_ne e, h.2 s a hs]
    congr 1
    by_cases q : a < m ∨ (a = m ∧ s < i)
    · have q2 : a < m ∨ (a = m ∧ s < i + 1) := by omega
      rw [if_pos q, if_pos q2]
    · have q2 : ¬ (a < m ∨ (a = m ∧ s < i + 1)) := by omega
      rw [if_neg q, if_neg q2]⟩
theorem DoneC.miss {ls : List Nat} {m i a : Nat} {d : List (List UInt8)} (h : DoneC ls m i d) (hi : ls[i]? = some a) (hne : a ≠ m) : DoneC ls m (i + 1) d := ⟨h.1, fun s b hs => by
  rw [h.2 s b hs]
  congr 1
  by_cases e : i = s
  · subst e
    obtain rfl : a = b := by rw [hi] at hs; cases hs; rfl
    by_cases q : a < m
    · have q1 : a < m ∨ (a = m ∧ i < i) := by omega
      have q2 : a < m ∨ (a = m ∧ i < i + 1) := by omega
      rw [if_pos q1, if_pos q2]
    · have q1 : ¬ (a < m ∨ (a = m ∧ i < i)) := by omega
      have q2 : ¬ (a < m ∨ (a = m ∧ i < i + 1)) := by omega
      rw [if_neg q1, if_neg q2]
  · by_cases q : b < m ∨ (b = m ∧ s < i)
    · have q2 : b < m ∨ (b = m ∧ s < i + 1) := by omega
      rw [if_pos q, if_pos q2]
    · have q2 : ¬ (b < m ∨ (b = m ∧ s < i + 1)) := by omega
      rw [if_neg q, if_neg q2]⟩
theorem DoneC.all {ls : List Nat} {d : List (List UInt8)} (h : DoneC ls 21 0 d) (hl : ∀ n ∈ ls, n ≤ 20) : d = codesB ls := by
  apply List.ext_getElem?
  intro s
  by_cases hs : s < ls.length
  · have hx := List.getElem?_eq_getElem hs
    have := hl _ (List.getElem_mem hs)
    have q : ls[s] < 21 ∨ (ls[s] = 21 ∧ s < 0) := by omega
    rw [h.2 s _ hx, if_pos q, codesB_get hs]
  · rw [List.getElem?_eq_none (by rw [h.1]; omega), List.getElem?_eq_none (by rw [codesB_len]; omega)]
/-- The codes of lengths. -/
def codesI (l : List Int) : List (List UInt8) := codesB (natL l)
theorem natL_len' (l : List Int) : (natL l).length = l.length := by simp [natL]
theorem codesI_len (l : List Int) : (codesI l).length = l.length := by unfold codesI; rw [codesB_len, natL_len']
set_option maxHeartbeats 4000000 in
theorem make_bad {w : World} {v : Value} {l : List Int} (h : SlE EZ w v l) (hbig : l.length ≤ 9223372036854775807) (h0 : wrongK l ≠ 0) :
    Calls Tryd.prog 27 #[v] w fun e w' => e = .returned (.tuple #[.slice none 0 0, .iface 48 (.int .i64 (wrongK l : Nat))]) ∧ w' = w := by
  obtain ⟨p, cap, rfl, _⟩ := id h
  have C := kcheck_any _ l w h hbig
  rw [errC_ne h0] at C
  generalize wrongK l = z at C ⊢
  generalize l.length = n at C
  have HC := hidp C
  clear C h h0 hbig
  go_enter Tryd.func27, Tryd.ntmps27
  go_wp2_with (go_at_call 45; refine HC.out.mono ?_; rintro e w' ⟨rfl, rfl⟩)
  go_ret2
  exact ⟨rfl, rfl⟩
set_option maxHeartbeats 16000000 in
set_option maxRecDepth 20000 in
theorem make_some {w : World} {v : Value} {l : List Int} (h : SlE EZ w v l) (h0 : wrongK l = 0) (hT : Tz w) (hne : l.length ≠ 0) :
    Calls Tryd.prog 27 #[v] w fun e w' => ∃ g, e = .returned (.tuple #[.slice (some ⟨g, 0, none⟩) l.length l.length, .nilIface]) ∧ SlE ES w' (.slice (some ⟨g, 0, none⟩) l.length l.length) (codesI l) ∧ Below w.heap.size w w' := by
  obtain ⟨p, cap, rfl, _⟩ := id h
  obtain ⟨h40, hrng, htop⟩ := wrongK_zero h0
  have C := kcheck_any _ l w h (by omega)
  rw [errC_nil h0] at C
  obtain ⟨n, hn⟩ : ∃ n, l.length = n := ⟨_, rfl⟩
  rw [hn] at h C h40 hne ⊢
  have hp20 : topC (natL l) 20 ≤ 2 ^ 20 := htop
  obtain ⟨ls, hls⟩ : ∃ ls, natL l = ls := ⟨_, rfl⟩
  have hall : ∀ a ∈ ls, a ≤ 20 := fun a ha => by
    rw [← hls] at ha
    obtain ⟨x, hx, rfl⟩ := List.mem_map.1 ha
    have := hrng x hx; omega
  have hget : ∀ (i : Nat) (x : Int), l[i]? = some x → ls[i]? = some x.toNat := fun i x hx => by
    rw [← hls]; unfold natL; rw [List.getElem?_map, hx]; rfl
  have hlen : ls.length = n := by rw [← hls, natL_len', hn]
  rw [hls] at hp20
  have HC := hidp C
  have HL := hidp h
  have HN := hidp hn
  have HRNG := hidp hrng
  have HTOP := hidp hp20
  have HGET := hidp hget
  have HALL := hidp hall
  have HLEN := hidp hlen
  have HLS := hidp hls
  have HT := hidp hT
  obtain ⟨i0, hi, hz0, hz1, hz2'⟩ := ES.infoE
  have hz2 : i0.bytes = 16 := hz2'
  clear C h hn h0 hrng htop hp20 hget hall hlen hls hT
  have hnp : 0 < n := by omega
  go_enter Tryd.func27, Tryd.ntmps27
  go_wp2_with (first | (go_at_call 45; refine HC.out.mono ?_; rintro e w' ⟨rfl, rfl⟩) | (at_make; refine wpList_make_full _ rfl (.tmp 16) (.tmp 16) 56 rfl w'.heap.size 9 i0 (.string ⟨#[]⟩) 1 Tryd.underlying56 hi hz0 hz1 .i64 .i64 _ _ n rfl rfl rfl rfl (by rw [hz2']; show 16 * n ≤ _; omega) (by unfold maxLen; omega) (Nat.le_refl _) ?_; intro w1 ho1 hg1; have hb1 : Below w'.heap.size w' w1 := (Below.refl _ _).grown hg1 (Nat.le_refl _) (fun k e => by cases e); obtain ⟨_, hw1⟩ := made_strs ho1 hnp; have HW1 := hidp hw1; have HB1 := hidp hb1; clear ho1 hg1 hw1 hb1))
  have HT1 := hidp (HT.out.below HB1.out)
  obtain ⟨g0, hg0⟩ : ∃ g0, w'.heap.size = g0 := ⟨_, rfl⟩
  rw [hg0] at HW1 HB1
  have HG0 := hidp hg0
  rw [hg0]
  have hgw1 : g0 < w1.heap.size := HW1.out.lt
  clear hg0
  have HD1 : Hid (DoneC ls 1 0 (List.replicate n [])) := by have := DoneC.begin ls; rw [HLEN.out] at this; exact this
  go_loopg [6, 7] 20 (fun g v6 v7 wr => ∃ (N m : Nat) (d : List (List UInt8)), v6 = .int .i64 N ∧ v7 = .int .i64 m ∧ 1 ≤ m ∧ m + g = 21 ∧ N ≤ 1048576 ∧ g0 < wr.heap.size ∧ Hid (N = topC ls (m - 1)) ∧ Hid (DoneC ls m 0 d) ∧ Hid (WrE ES wr g0 0 d) ∧ Hid (Below g0 w' wr) ∧ Hid (Tz wr))
  case atStart => exact ⟨0, 1, List.replicate n [], rfl, rfl, by omega, by omega, by omega, hgw1, (show Hid _ from rfl), HD1, HW1, HB1, HT1⟩
  case round =>
    obtain ⟨N, m, d, rfl, rfl, hm1, hmg, hN, hgl, HNT, HD, HW, HB, HTZ⟩ := hrel
    by_cases hm : m ≤ 20
    · have hmz : (m : Int) ≤ 20 := by omega
      have hN2 : N ≤ 524288 := by
        have h1 := topC_le HTOP.out (show m - 1 ≤ 20 by omega)
        have h2 : 2 ^ (m - 1) ≤ 2 ^ 19 := Nat.pow_le_pow_right (by decide) (by omega)
        rw [← HNT.out] at h1
        exact Nat.le_trans h1 h2
      have hNw : wrap64 ((N : Int) * 2) = ((2 * N : Nat) : Int) := by unfold wrap64; omega
      have hNw2 : (N : Int) * 2 = ((2 * N : Nat) : Int) := by omega
      have HN0 : Hid (2 * N = nextC ls m 0) := by
        obtain ⟨k, rfl⟩ : ∃ k, m = k + 1 := ⟨m - 1, by omega⟩
        show _ = _
        rw [nextC_zero, HNT.out]; rfl
      have hK0 : 2 * N ≤ 1048576 := by omega
      obtain ⟨K0, hK⟩ : ∃ K0, 2 * N = K0 := ⟨_, rfl⟩
      rw [hK] at hNw hNw2 HN0 hK0
      clear hK
      obtain ⟨W0, hW0⟩ : ∃ W0, W0 = wr := ⟨_, rfl⟩
      subst hW0
      go_wp2
      go_loopg [6, 26] n (fun gi v6 v26 wr => ∃ (K i : Nat) (d : List (List UInt8)), v6 = .int .i64 K ∧ v26 = .int .i64 i ∧ i + gi = n ∧ K ≤ 1048576 ∧ g0 < wr.heap.size ∧ Hid (K = nextC ls m i) ∧ Hid (DoneC ls m i d) ∧ Hid (WrE ES wr g0 0 d) ∧ Hid (Below g0 w' wr) ∧ Hid (Tz wr))
      case atStart => exact ⟨K0, 0, d, rfl, rfl, by omega, hK0, hgl, HN0, HD, HW, HB, HTZ⟩
      case round =>
        obtain ⟨K, i, d, rfl, rfl, hgi, hK1, hgl, HK, HD, HW, HB, HTZ⟩ := hrel
        by_cases hlt : i < n
        · have hlz : (i : Int) < (n : Int) := by omega
          obtain ⟨x, hx⟩ : ∃ x, l[i]? = some x := ⟨_, List.getElem?_eq_getElem (by have := HN.out; omega)⟩
          obtain ⟨x0, x1⟩ := HRNG.out x (List.mem_of_getElem? hx)
          obtain ⟨a, rfl⟩ : ∃ a : Nat, x = a := ⟨x.toNat, by omega⟩
          have hga := HGET.out i _ hx
          rw [Int.toNat_natCast] at hga
          obtain ⟨b1, o1, rfl, _, _, hr1⟩ := HL.out.some (by omega)
          have hb1 : b1 < g0 := by rw [← HG0.out]; exact hr1.1
          have c0 := (hr1.below (B := g0) HB.out hb1).int hx
          have HGA := hidp hga
          have HR1 := hidp hr1
          clear hx hr1 hga
          by_cases ham : a = m
          · subst ham
            have hroom := nextC_room HTOP.out HGA.out (by omega) (by omega)
            rw [← HK.out] at hroom
            have HCALL := hidp (digits_any K a (by omega) (by omega) hroom wr HTZ.out)
            have HCB : Hid (bitsU a K = codeB ls i) := by show _ = _; rw [codeB_of HGA.out, HK.out]
            have hdl : i < d.length := by have := HD.out.1; have := HLEN.out; omega
            obtain ⟨y, hy⟩ : ∃ y, d[i]? = some y := ⟨_, List.getElem?_eq_getElem hdl⟩
            have HDL := hidp hdl
            have HY := hidp hy
            have hKt : K + 1 ≤ 1048576 := Nat.le_trans hroom (Nat.pow_le_pow_right (n := 2) (by decide) (show a ≤ 20 by omega))
            have hKw : wrap64 ((K : Int) + 1) = (K : Int) + 1 := by unfold wrap64; omega
            clear hdl hy hroom
            go_wp2_with (go_at_call 46; refine HCALL.out.mono ?_; rintro e w2 ⟨rfl, hb2⟩; have HB2 := hidp hb2; have HW2 := hidp (HW.out.below hb2 HW.out.lt); obtain ⟨cy, fy⟩ := HW2.out.str HY.out; clear hb2)
            go_roundg (n - (i + 1))
            case measure => omega
            case rel =>
              refine ⟨K + 1, i + 1, d.set i (bitsU a K), by go_num, by go_num, by omega, hKt, ?_, (show Hid _ from ?_), (show Hid _ from ?_), (show Hid _ from HW2.out.setStr HDL.out _), (show Hid _ from (HB.out.trans (HB2.out.mono (Nat.le_of_lt hgl))).setCell (Nat.le_refl _) _), (show Hid _ from ?_)⟩
              · have := HB2.out.size; simp [World.setCell]; omega
              · show _ = _; rw [nextC_hit HGA.out, HK.out]
              · show DoneC _ _ _ _; rw [HCB.out]; exact HD.out.hit HGA.out
              · have h1 := HTZ.out.below HB2.out
                have hne : (6 : Nat) ≠ g0 := by have := HT.out.1; have := HG0.out; omega
                exact ⟨by have := h1.1; simp [World.setCell]; omega, (World.cell?_setCell_other _ _ _ _ (fun e => hne (by injection e with e1; exact e1.symm))).trans h1.2⟩
          · have haz : ((a : Int) == (m : Int)) = false := beq_eq_false_iff_ne.2 (by omega)
            have haz2 : ¬ (a : Int) = (m : Int) := by omega
            go_wp2
            go_roundg (n - (i + 1))
            case measure => omega
            case rel => exact ⟨K, i + 1, d, rfl, by go_num, by omega, hK1, hgl, (show Hid _ from by show _ = _; rw [nextC_miss HGA.out ham]; exact HK.out), (show Hid _ from HD.out.miss HGA.out ham), HW, HB, HTZ⟩
        · have hlz : ¬ (i : Int) < (n : Int) := by omega
          have hin : i = n := by omega
          have HKT : Hid (K = topC ls m) := by
            obtain ⟨k, rfl⟩ : ∃ k, m = k + 1 := ⟨m - 1, by omega⟩
            show _ = _
            rw [HK.out, hin, ← HLEN.out, nextC_all]
          have HDN : Hid (DoneC ls (m + 1) 0 d) := by
            have := HD.out
            rw [hin, ← HLEN.out] at this
            exact this.next
          clear hin
          go_wp2
          go_roundg (20 - m)
          case measure => omega
          case rel => exact ⟨K, m + 1, d, rfl, by go_num, by omega, by omega, hK1, hgl, (show Hid _ from HKT.out), HDN, HW, HB, HTZ⟩
    · have hmz : ¬ (m : Int) ≤ 20 := by omega
      have HE : Hid (d = codesI l) := by
        show _ = _
        obtain rfl : m = 21 := by omega
        unfold codesI
        rw [HLS.out]
        exact HD.out.all HALL.out
      have HNL : Hid ((codesI l).length = n) := by show _ = _; rw [codesI_len, HN.out]
      clear HNT HD HTZ
      go_wp2
      go_ret2
      have hr := HW.out.rd
      rw [HE.out] at hr
      exact ⟨g0, rfl, SlE.of_rd hr HNL.out (Nat.le_refl _), by rw [HG0.out]; exact HB.out⟩
#print axioms make_some
end Go.Proofs.YtlaeaeciomkababDoor
