/-
  The document's Runes.
-/
import Derived.Test.YtlaeaeciomkabaaDoorRefU1
import Derived.Test.YtlaeaeciomkabaaDoorCoRu
namespace Go.Proofs.YtlaeaeciomkabaaDoor
open Go.RowKit Go.Sort Go.Proofs

theorem wrap_c {c : Int} {b : Nat} (h0 : 0 ≤ c) (h1 : c ≤ 1000000) (hb : b < 256) : wrap64 (c * 64) = c * 64 ∧ wrap64 (c * 64 + (b : Int)) = c * 64 + (b : Int) ∧ wrap64 (c * 64 + (b : Int) - 128) = c * 64 + (b : Int) - 128 := by unfold wrap64; omega
set_option maxHeartbeats 32000000 in
set_option maxRecDepth 20000 in
theorem refRunes_any {w : World} {T : ByteArray} (h : T.size ≤ 60) :
    Calls Tryd.prog 21 #[.string T] w fun e w' => ∃ u, e = .returned u ∧ SlE EZ w' u (runesS T.data.toList) ∧ Below w.heap.size w w' := by
  obtain ⟨a, ha⟩ : ∃ a, T.size = a := ⟨_, rfl⟩
  have ha60 : a ≤ 60 := by omega
  have HA := hidp ha
  obtain ⟨R, hR⟩ : ∃ R, runesS T.data.toList = R := ⟨_, rfl⟩
  rw [hR]
  have HR0 : Hid (R = [] ++ runesS T.data.toList) := by show _ = _; rw [hR]; rfl
  have HO1 : Hid (OwnE EZ w w.heap.size (.slice none 0 0) []) := OwnE.nil EZ w w.heap.size
  have HB1 : Hid (Below w.heap.size w w) := Below.refl _ _
  clear h hR
  go_enter Tryd.func21, Tryd.ntmps21
  go_wp2
  go_loopg [0, 3] a (fun gh v0 v4 wr => ∃ (T : ByteArray) (r : Nat) (acc : List Int) (p4 : Option Addr) (k4 c4 : Nat), v0 = .string T ∧ v4 = .slice p4 k4 c4 ∧ T.size = r ∧ r ≤ gh ∧ r + k4 ≤ 60 ∧ Hid (k4 = acc.length) ∧ Hid (R = acc ++ runesS T.data.toList) ∧ Hid (OwnE EZ wr w.heap.size (.slice p4 k4 c4) acc) ∧ Hid (Below w.heap.size w wr))
  case atStart => exact ⟨T, a, [], _, 0, 0, rfl, rfl, HA.out, Nat.le_refl _, by omega, (show Hid _ from rfl), HR0, HO1, HB1⟩
  case round =>
    obtain ⟨T, r, acc, p4, k4, c4, rfl, rfl, hTr, hr, hrk, HK, HR, HO, HBW⟩ := hrel
    by_cases h0 : r = 0
    · have hnil : T.data.toList = [] := List.eq_nil_of_length_eq_zero (by rw [← Lib.size_eq, hTr, h0])
      have HF : Hid (R = acc) := by
        show _ = _
        rw [HR.out, hnil, runesS_nil, List.append_nil]
      subst h0
      clear hnil
      go_wp2
      go_ret
      rw [HF.out]
      exact ⟨_, rfl, HO.out.sl, HBW.out⟩
    · have hne : T.data.toList ≠ [] := fun e => h0 (by rw [← hTr, Lib.size_eq, e]; rfl)
      have hrz : (0 : Int) < (r : Int) := by omega
      obtain ⟨k1, k2, k3⟩ := decL_len hne
      have hst := HR.out
      rw [runesS_step hne] at hst
      rw [← Lib.size_eq, hTr] at k2
      have hld := long_dec T.data.toList
      have hle := long_le T.data.toList
      have h0s : 0 < T.size := by rw [hTr]; exact Nat.pos_of_ne_zero h0
      have hex : ∀ k, (T.extract k r).data.toList = T.data.toList.drop k := fun k => extract_tailU hTr
      have hexs : ∀ k, (T.extract k r).size = r - k := fun k => by rw [Lib.size_eq, hex, List.length_drop, ← Lib.size_eq, hTr]
      have HEX := hidp hex
      have HEXS := hidp hexs
      have HSZ : Hid (acc.length ≤ 100000) := by show _ ≤ _; rw [← HK.out]; omega
      have HCL := hidp (fun W => long_any W hne)
      have HTR := hidp hTr
      clear hne hex hexs
      rcases (show longL T.data.toList = 0 ∨ longL T.data.toList = 1 ∨ longL T.data.toList = 2 ∨ longL T.data.toList = 3 ∨ longL T.data.toList = 4 by omega) with hL | hL | hL | hL | hL
      · rw [hL] at HCL
        obtain ⟨hk, hi⟩ : (decL T.data.toList).2 = 1 ∧ itemL T.data.toList = -1 - (bAt T.data.toList 0 : Int) := by
          rcases hld with ⟨_, a, b⟩ | ⟨a, _, _⟩
          · exact ⟨a, b⟩
          · exact absurd hL a
        rw [hk] at k2 hst
        rw [hi] at hst
        have h0t : 0 < T.size := by rw [hTr]; omega
        have hb0 : (T[0]'h0t).toNat = bAt T.data.toList 0 := byte_at h0t
        have hlt0 := bAt_lt T.data.toList 0
        obtain ⟨b0, e0⟩ : ∃ b, bAt T.data.toList 0 = b := ⟨_, rfl⟩
        obtain ⟨b1, e1⟩ : ∃ b, bAt T.data.toList 1 = b := ⟨_, rfl⟩
        obtain ⟨b2, e2⟩ : ∃ b, bAt T.data.toList 2 = b := ⟨_, rfl⟩
        obtain ⟨b3, e3⟩ : ∃ b, bAt T.data.toList 3 = b := ⟨_, rfl⟩
        rw [e0] at hst
        rw [e0] at hb0 hlt0
        clear hL hk hi hld hle e0 e1 e2 e3 k1 k3
        have hw1 := (wrap_byte hlt0).2
        have HST := hidp hst
        have hkrz : (1 : Int) ≤ (r : Int) := by omega
        clear hst
        have HOA := hidp (HO.out.alloc (.cells #[.int .i64 (-1 - (b0 : Int))] 3))
        have HNEW := hidp (box_one wr (-1 - (b0 : Int)))
        have HBS : Hid (w.heap.size ≤ (wr.alloc (.cells #[.int .i64 (-1 - (b0 : Int))] 3)).heap.size) := by show _ ≤ _; have := HBW.out.size; simp; omega
        have HBA : Hid (Below w.heap.size w (wr.alloc (.cells #[.int .i64 (-1 - (b0 : Int))] 3))) := HBW.out.alloc HBW.out.size _
        go_wp2_with (first | (go_at_call 33; refine (HCL.out _).mono ?_; rintro e w2 ⟨rfl, hw2⟩; have hw3 := hw2.symm; subst hw3; clear hw2) | (at_builtin; refine wpList_appendE EZ rfl (.tmp 17) (.tmp 20) rfl w.heap.size _ acc (-1 - (b0 : Int)) ⟨wr.heap.size, 0, none⟩ 1 rfl HOA.out rfl HNEW.out HSZ.out HBS.out ?_; intro v3 w3 a1 a2 a3; have hb3 := HBA.out.trans (below_ownE HOA.out a2 (Nat.le_refl _) HBS.out); obtain ⟨p9, k9, hv⟩ := OwnE.form a1; rw [List.length_append, List.length_singleton, ← HK.out] at hv; subst hv; have HO3 := hidp a1; have HB3 := hidp hb3; clear hb3 a1 a2 a3))
        go_roundg (gk - 1)
        case measure => omega
        case rel => exact ⟨T.extract 1 r, r - 1, acc ++ [(-1 - (b0 : Int))], p9, k4 + 1, k9, rfl, rfl, HEXS.out 1, by omega, by omega, (show Hid _ from by show _ = _; rw [List.length_append, ← HK.out]; rfl), (show Hid _ from by show _ = _; rw [HEX.out 1, List.append_assoc]; exact HST.out), HO3, HB3⟩
      · rw [hL] at HCL
        obtain ⟨hk, hi⟩ : (decL T.data.toList).2 = 1 ∧ itemL T.data.toList = valN 1 (bAt T.data.toList 0) (bAt T.data.toList 1) (bAt T.data.toList 2) (bAt T.data.toList 3) := by
          rcases hld with ⟨a, _, _⟩ | ⟨_, a, b⟩
          · rw [hL] at a; exact absurd a (by decide)
          · rw [hL] at a; unfold valL at b; rw [hL] at b; exact ⟨a, b⟩
        rw [hk] at k2 hst
        rw [hi] at hst
        have h0t : 0 < T.size := by rw [hTr]; omega
        have hb0 : (T[0]'h0t).toNat = bAt T.data.toList 0 := byte_at h0t
        have hlt0 := bAt_lt T.data.toList 0
        have hrg : 0 ≤ valN 1 (bAt T.data.toList 0) (bAt T.data.toList 1) (bAt T.data.toList 2) (bAt T.data.toList 3) ∧ leadOk 1 (bAt T.data.toList 0) (bAt T.data.toList 1) (bAt T.data.toList 2) := long_rg hL (by decide)
        obtain ⟨b0, e0⟩ : ∃ b, bAt T.data.toList 0 = b := ⟨_, rfl⟩
        obtain ⟨b1, e1⟩ : ∃ b, bAt T.data.toList 1 = b := ⟨_, rfl⟩
        obtain ⟨b2, e2⟩ : ∃ b, bAt T.data.toList 2 = b := ⟨_, rfl⟩
        obtain ⟨b3, e3⟩ : ∃ b, bAt T.data.toList 3 = b := ⟨_, rfl⟩
        rw [e0, e1, e2, e3] at hst
        rw [e0, e1, e2, e3] at hrg
        rw [e0] at hb0 hlt0
        clear hL hk hi hld hle e0 e1 e2 e3 k1 k3
        unfold leadOk at hrg
        obtain ⟨hrg0, hrg1⟩ := hrg
        have hv : valN 1 b0 b1 b2 b3 = (b0 : Int) := by
          unfold valN
          rw [if_pos rfl]
        rw [hv] at hst
        have HST := hidp hst
        have hkrz : (1 : Int) ≤ (r : Int) := by omega
        clear hst hv hrg0 hrg1
        have HOA := hidp (HO.out.alloc (.cells #[.int .i64 (b0 : Int)] 3))
        have HNEW := hidp (box_one wr (b0 : Int))
        have HBS : Hid (w.heap.size ≤ (wr.alloc (.cells #[.int .i64 (b0 : Int)] 3)).heap.size) := by show _ ≤ _; have := HBW.out.size; simp; omega
        have HBA : Hid (Below w.heap.size w (wr.alloc (.cells #[.int .i64 (b0 : Int)] 3))) := HBW.out.alloc HBW.out.size _
        go_wp2_with (go_at_call 33; refine (HCL.out _).mono ?_; rintro e w2 ⟨rfl, hw2⟩; have hw3 := hw2.symm; subst hw3; clear hw2)
        go_loopg [5, 6] 0 (fun gh v5 v6 wq => wr = wq ∧ (gh = 0 ∧ v5 = .int .i64 (b0 : Int) ∧ v6 = .int .i64 1))
        case atStart => exact ⟨rfl, rfl, rfl, rfl⟩
        case round =>
          obtain ⟨hwq, hcases⟩ := hrel
          subst hwq
          rcases hcases with ⟨rfl, rfl, rfl⟩
          · go_wp2_with (at_builtin; refine wpList_appendE EZ rfl (.tmp 49) (.tmp 51) rfl w.heap.size _ acc (b0 : Int) ⟨wr.heap.size, 0, none⟩ 1 rfl HOA.out rfl HNEW.out HSZ.out HBS.out ?_; intro v3 w3 a1 a2 a3; have hb3 := HBA.out.trans (below_ownE HOA.out a2 (Nat.le_refl _) HBS.out); obtain ⟨p9, k9, hv⟩ := OwnE.form a1; rw [List.length_append, List.length_singleton, ← HK.out] at hv; subst hv; have HO3 := hidp a1; have HB3 := hidp hb3; clear hb3 a1 a2 a3)
            go_roundg (gk - 1)
            case measure => omega
            case rel => exact ⟨T.extract 1 r, r - 1, acc ++ [(b0 : Int)], p9, k4 + 1, k9, rfl, rfl, HEXS.out 1, by omega, by omega, (show Hid _ from by show _ = _; rw [List.length_append, ← HK.out]; rfl), (show Hid _ from by show _ = _; rw [HEX.out 1, List.append_assoc]; exact HST.out), HO3, HB3⟩
      · rw [hL] at HCL
        obtain ⟨hk, hi⟩ : (decL T.data.toList).2 = 2 ∧ itemL T.data.toList = valN 2 (bAt T.data.toList 0) (bAt T.data.toList 1) (bAt T.data.toList 2) (bAt T.data.toList 3) := by
          rcases hld with ⟨a, _, _⟩ | ⟨_, a, b⟩
          · rw [hL] at a; exact absurd a (by decide)
          · rw [hL] at a; unfold valL at b; rw [hL] at b; exact ⟨a, b⟩
        rw [hk] at k2 hst
        rw [hi] at hst
        have h0t : 0 < T.size := by rw [hTr]; omega
        have hb0 : (T[0]'h0t).toNat = bAt T.data.toList 0 := byte_at h0t
        have hlt0 := bAt_lt T.data.toList 0
        have h1t : 1 < T.size := by rw [hTr]; omega
        have hb1 : (T[1]'h1t).toNat = bAt T.data.toList 1 := byte_at h1t
        have hlt1 := bAt_lt T.data.toList 1
        have hrg : 0 ≤ valN 2 (bAt T.data.toList 0) (bAt T.data.toList 1) (bAt T.data.toList 2) (bAt T.data.toList 3) ∧ leadOk 2 (bAt T.data.toList 0) (bAt T.data.toList 1) (bAt T.data.toList 2) := long_rg hL (by decide)
        obtain ⟨b0, e0⟩ : ∃ b, bAt T.data.toList 0 = b := ⟨_, rfl⟩
        obtain ⟨b1, e1⟩ : ∃ b, bAt T.data.toList 1 = b := ⟨_, rfl⟩
        obtain ⟨b2, e2⟩ : ∃ b, bAt T.data.toList 2 = b := ⟨_, rfl⟩
        obtain ⟨b3, e3⟩ : ∃ b, bAt T.data.toList 3 = b := ⟨_, rfl⟩
        rw [e0, e1, e2, e3] at hst
        rw [e0, e1, e2, e3] at hrg
        rw [e0] at hb0 hlt0
        rw [e1] at hb1 hlt1
        clear hL hk hi hld hle e0 e1 e2 e3 k1 k3
        unfold leadOk at hrg
        obtain ⟨hrg0, hrg1⟩ := hrg
        have hwb : wrap64 ((b0 : Int) - 192) = (b0 : Int) - 192 := by unfold wrap64; omega
        obtain ⟨C1, hC1⟩ : ∃ C : Int, (b0 : Int) - 192 = C := ⟨_, rfl⟩
        have g1 : 0 ≤ C1 ∧ C1 ≤ 31 := by omega
        obtain ⟨wa1, wb1, wc1⟩ := wrap_c (c := C1) (b := b1) g1.1 (by omega) hlt1
        obtain ⟨C2, hC2⟩ : ∃ C : Int, C1 * 64 + (b1 : Int) - 128 = C := ⟨_, rfl⟩
        have hv : valN 2 b0 b1 b2 b3 = C2 := by
          unfold valN
          rw [if_neg (by decide), if_pos rfl]
          omega
        rw [hv] at hst
        have HST := hidp hst
        have hkrz : (2 : Int) ≤ (r : Int) := by omega
        clear hst hv hrg0 hrg1
        have HOA := hidp (HO.out.alloc (.cells #[.int .i64 C2] 3))
        have HNEW := hidp (box_one wr C2)
        have HBS : Hid (w.heap.size ≤ (wr.alloc (.cells #[.int .i64 C2] 3)).heap.size) := by show _ ≤ _; have := HBW.out.size; simp; omega
        have HBA : Hid (Below w.heap.size w (wr.alloc (.cells #[.int .i64 C2] 3))) := HBW.out.alloc HBW.out.size _
        go_wp2_with (go_at_call 33; refine (HCL.out _).mono ?_; rintro e w2 ⟨rfl, hw2⟩; have hw3 := hw2.symm; subst hw3; clear hw2)
        go_loopg [5, 6] 1 (fun gh v5 v6 wq => wr = wq ∧ ((gh = 1 ∧ v5 = .int .i64 C1 ∧ v6 = .int .i64 1) ∨ (gh = 0 ∧ v5 = .int .i64 C2 ∧ v6 = .int .i64 2)))
        case atStart => exact ⟨rfl, Or.inl ⟨rfl, rfl, rfl⟩⟩
        case round =>
          obtain ⟨hwq, hcases⟩ := hrel
          subst hwq
          rcases hcases with ⟨rfl, rfl, rfl⟩ | ⟨rfl, rfl, rfl⟩
          · go_wp2
            go_roundg 0
            case measure => omega
            case rel => exact ⟨rfl, Or.inr (⟨rfl, rfl, rfl⟩)⟩
          · go_wp2_with (at_builtin; refine wpList_appendE EZ rfl (.tmp 49) (.tmp 51) rfl w.heap.size _ acc C2 ⟨wr.heap.size, 0, none⟩ 1 rfl HOA.out rfl HNEW.out HSZ.out HBS.out ?_; intro v3 w3 a1 a2 a3; have hb3 := HBA.out.trans (below_ownE HOA.out a2 (Nat.le_refl _) HBS.out); obtain ⟨p9, k9, hv⟩ := OwnE.form a1; rw [List.length_append, List.length_singleton, ← HK.out] at hv; subst hv; have HO3 := hidp a1; have HB3 := hidp hb3; clear hb3 a1 a2 a3)
            go_roundg (gk - 1)
            case measure => omega
            case rel => exact ⟨T.extract 2 r, r - 2, acc ++ [C2], p9, k4 + 1, k9, rfl, rfl, HEXS.out 2, by omega, by omega, (show Hid _ from by show _ = _; rw [List.length_append, ← HK.out]; rfl), (show Hid _ from by show _ = _; rw [HEX.out 2, List.append_assoc]; exact HST.out), HO3, HB3⟩
      · rw [hL] at HCL
        obtain ⟨hk, hi⟩ : (decL T.data.toList).2 = 3 ∧ itemL T.data.toList = valN 3 (bAt T.data.toList 0) (bAt T.data.toList 1) (bAt T.data.toList 2) (bAt T.data.toList 3) := by
          rcases hld with ⟨a, _, _⟩ | ⟨_, a, b⟩
          · rw [hL] at a; exact absurd a (by decide)
          · rw [hL] at a; unfold valL at b; rw [hL] at b; exact ⟨a, b⟩
        rw [hk] at k2 hst
        rw [hi] at hst
        have h0t : 0 < T.size := by rw [hTr]; omega
        have hb0 : (T[0]'h0t).toNat = bAt T.data.toList 0 := byte_at h0t
        have hlt0 := bAt_lt T.data.toList 0
        have h1t : 1 < T.size := by rw [hTr]; omega
        have hb1 : (T[1]'h1t).toNat = bAt T.data.toList 1 := byte_at h1t
        have hlt1 := bAt_lt T.data.toList 1
        have h2t : 2 < T.size := by rw [hTr]; omega
        have hb2 : (T[2]'h2t).toNat = bAt T.data.toList 2 := byte_at h2t
        have hlt2 := bAt_lt T.data.toList 2
        have hrg : 0 ≤ valN 3 (bAt T.data.toList 0) (bAt T.data.toList 1) (bAt T.data.toList 2) (bAt T.data.toList 3) ∧ leadOk 3 (bAt T.data.toList 0) (bAt T.data.toList 1) (bAt T.data.toList 2) := long_rg hL (by decide)
        obtain ⟨b0, e0⟩ : ∃ b, bAt T.data.toList 0 = b := ⟨_, rfl⟩
        obtain ⟨b1, e1⟩ : ∃ b, bAt T.data.toList 1 = b := ⟨_, rfl⟩
        obtain ⟨b2, e2⟩ : ∃ b, bAt T.data.toList 2 = b := ⟨_, rfl⟩
        obtain ⟨b3, e3⟩ : ∃ b, bAt T.data.toList 3 = b := ⟨_, rfl⟩
        rw [e0, e1, e2, e3] at hst
        rw [e0, e1, e2, e3] at hrg
        rw [e0] at hb0 hlt0
        rw [e1] at hb1 hlt1
        rw [e2] at hb2 hlt2
        clear hL hk hi hld hle e0 e1 e2 e3 k1 k3
        unfold leadOk at hrg
        obtain ⟨hrg0, hrg1⟩ := hrg
        have hwb : wrap64 ((b0 : Int) - 224) = (b0 : Int) - 224 := by unfold wrap64; omega
        obtain ⟨C1, hC1⟩ : ∃ C : Int, (b0 : Int) - 224 = C := ⟨_, rfl⟩
        have g1 : 0 ≤ C1 ∧ C1 ≤ 31 := by omega
        obtain ⟨wa1, wb1, wc1⟩ := wrap_c (c := C1) (b := b1) g1.1 (by omega) hlt1
        obtain ⟨C2, hC2⟩ : ∃ C : Int, C1 * 64 + (b1 : Int) - 128 = C := ⟨_, rfl⟩
        have g2 : 0 ≤ C2 ∧ C2 ≤ 2112 := by omega
        obtain ⟨wa2, wb2, wc2⟩ := wrap_c (c := C2) (b := b2) g2.1 (by omega) hlt2
        obtain ⟨C3, hC3⟩ : ∃ C : Int, C2 * 64 + (b2 : Int) - 128 = C := ⟨_, rfl⟩
        have hv : valN 3 b0 b1 b2 b3 = C3 := by
          unfold valN
          rw [if_neg (by decide), if_neg (by decide), if_pos rfl]
          omega
        rw [hv] at hst
        have HST := hidp hst
        have hkrz : (3 : Int) ≤ (r : Int) := by omega
        clear hst hv hrg0 hrg1
        have HOA := hidp (HO.out.alloc (.cells #[.int .i64 C3] 3))
        have HNEW := hidp (box_one wr C3)
        have HBS : Hid (w.heap.size ≤ (wr.alloc (.cells #[.int .i64 C3] 3)).heap.size) := by show _ ≤ _; have := HBW.out.size; simp; omega
        have HBA : Hid (Below w.heap.size w (wr.alloc (.cells #[.int .i64 C3] 3))) := HBW.out.alloc HBW.out.size _
        go_wp2_with (go_at_call 33; refine (HCL.out _).mono ?_; rintro e w2 ⟨rfl, hw2⟩; have hw3 := hw2.symm; subst hw3; clear hw2)
        go_loopg [5, 6] 2 (fun gh v5 v6 wq => wr = wq ∧ ((gh = 2 ∧ v5 = .int .i64 C1 ∧ v6 = .int .i64 1) ∨ (gh = 1 ∧ v5 = .int .i64 C2 ∧ v6 = .int .i64 2) ∨ (gh = 0 ∧ v5 = .int .i64 C3 ∧ v6 = .int .i64 3)))
        case atStart => exact ⟨rfl, Or.inl ⟨rfl, rfl, rfl⟩⟩
        case round =>
          obtain ⟨hwq, hcases⟩ := hrel
          subst hwq
          rcases hcases with ⟨rfl, rfl, rfl⟩ | ⟨rfl, rfl, rfl⟩ | ⟨rfl, rfl, rfl⟩
          · go_wp2
            go_roundg 1
            case measure => omega
            case rel => exact ⟨rfl, Or.inr (Or.inl ⟨rfl, rfl, rfl⟩)⟩
          · go_wp2
            go_roundg 0
            case measure => omega
            case rel => exact ⟨rfl, Or.inr (Or.inr (⟨rfl, rfl, rfl⟩))⟩
          · go_wp2_with (at_builtin; refine wpList_appendE EZ rfl (.tmp 49) (.tmp 51) rfl w.heap.size _ acc C3 ⟨wr.heap.size, 0, none⟩ 1 rfl HOA.out rfl HNEW.out HSZ.out HBS.out ?_; intro v3 w3 a1 a2 a3; have hb3 := HBA.out.trans (below_ownE HOA.out a2 (Nat.le_refl _) HBS.out); obtain ⟨p9, k9, hv⟩ := OwnE.form a1; rw [List.length_append, List.length_singleton, ← HK.out] at hv; subst hv; have HO3 := hidp a1; have HB3 := hidp hb3; clear hb3 a1 a2 a3)
            go_roundg (gk - 1)
            case measure => omega
            case rel => exact ⟨T.extract 3 r, r - 3, acc ++ [C3], p9, k4 + 1, k9, rfl, rfl, HEXS.out 3, by omega, by omega, (show Hid _ from by show _ = _; rw [List.length_append, ← HK.out]; rfl), (show Hid _ from by show _ = _; rw [HEX.out 3, List.append_assoc]; exact HST.out), HO3, HB3⟩
      · rw [hL] at HCL
        obtain ⟨hk, hi⟩ : (decL T.data.toList).2 = 4 ∧ itemL T.data.toList = valN 4 (bAt T.data.toList 0) (bAt T.data.toList 1) (bAt T.data.toList 2) (bAt T.data.toList 3) := by
          rcases hld with ⟨a, _, _⟩ | ⟨_, a, b⟩
          · rw [hL] at a; exact absurd a (by decide)
          · rw [hL] at a; unfold valL at b; rw [hL] at b; exact ⟨a, b⟩
        rw [hk] at k2 hst
        rw [hi] at hst
        have h0t : 0 < T.size := by rw [hTr]; omega
        have hb0 : (T[0]'h0t).toNat = bAt T.data.toList 0 := byte_at h0t
        have hlt0 := bAt_lt T.data.toList 0
        have h1t : 1 < T.size := by rw [hTr]; omega
        have hb1 : (T[1]'h1t).toNat = bAt T.data.toList 1 := byte_at h1t
        have hlt1 := bAt_lt T.data.toList 1
        have h2t : 2 < T.size := by rw [hTr]; omega
        have hb2 : (T[2]'h2t).toNat = bAt T.data.toList 2 := byte_at h2t
        have hlt2 := bAt_lt T.data.toList 2
        have h3t : 3 < T.size := by rw [hTr]; omega
        have hb3 : (T[3]'h3t).toNat = bAt T.data.toList 3 := byte_at h3t
        have hlt3 := bAt_lt T.data.toList 3
        have hrg : 0 ≤ valN 4 (bAt T.data.toList 0) (bAt T.data.toList 1) (bAt T.data.toList 2) (bAt T.data.toList 3) ∧ leadOk 4 (bAt T.data.toList 0) (bAt T.data.toList 1) (bAt T.data.toList 2) := long_rg hL (by decide)
        obtain ⟨b0, e0⟩ : ∃ b, bAt T.data.toList 0 = b := ⟨_, rfl⟩
        obtain ⟨b1, e1⟩ : ∃ b, bAt T.data.toList 1 = b := ⟨_, rfl⟩
        obtain ⟨b2, e2⟩ : ∃ b, bAt T.data.toList 2 = b := ⟨_, rfl⟩
        obtain ⟨b3, e3⟩ : ∃ b, bAt T.data.toList 3 = b := ⟨_, rfl⟩
        rw [e0, e1, e2, e3] at hst
        rw [e0, e1, e2, e3] at hrg
        rw [e0] at hb0 hlt0
        rw [e1] at hb1 hlt1
        rw [e2] at hb2 hlt2
        rw [e3] at hb3 hlt3
        clear hL hk hi hld hle e0 e1 e2 e3 k1 k3
        unfold leadOk at hrg
        obtain ⟨hrg0, hrg1⟩ := hrg
        have hwb : wrap64 ((b0 : Int) - 240) = (b0 : Int) - 240 := by unfold wrap64; omega
        obtain ⟨C1, hC1⟩ : ∃ C : Int, (b0 : Int) - 240 = C := ⟨_, rfl⟩
        have g1 : 0 ≤ C1 ∧ C1 ≤ 31 := by omega
        obtain ⟨wa1, wb1, wc1⟩ := wrap_c (c := C1) (b := b1) g1.1 (by omega) hlt1
        obtain ⟨C2, hC2⟩ : ∃ C : Int, C1 * 64 + (b1 : Int) - 128 = C := ⟨_, rfl⟩
        have g2 : 0 ≤ C2 ∧ C2 ≤ 2112 := by omega
        obtain ⟨wa2, wb2, wc2⟩ := wrap_c (c := C2) (b := b2) g2.1 (by omega) hlt2
        obtain ⟨C3, hC3⟩ : ∃ C : Int, C2 * 64 + (b2 : Int) - 128 = C := ⟨_, rfl⟩
        have g3 : 0 ≤ C3 ∧ C3 ≤ 135296 := by omega
        obtain ⟨wa3, wb3, wc3⟩ := wrap_c (c := C3) (b := b3) g3.1 (by omega) hlt3
        obtain ⟨C4, hC4⟩ : ∃ C : Int, C3 * 64 + (b3 : Int) - 128 = C := ⟨_, rfl⟩
        have hv : valN 4 b0 b1 b2 b3 = C4 := by
          unfold valN
          rw [if_neg (by decide), if_neg (by decide), if_neg (by decide)]
          omega
        rw [hv] at hst
        have HST := hidp hst
        have hkrz : (4 : Int) ≤ (r : Int) := by omega
        clear hst hv hrg0 hrg1
        have HOA := hidp (HO.out.alloc (.cells #[.int .i64 C4] 3))
        have HNEW := hidp (box_one wr C4)
        have HBS : Hid (w.heap.size ≤ (wr.alloc (.cells #[.int .i64 C4] 3)).heap.size) := by show _ ≤ _; have := HBW.out.size; simp; omega
        have HBA : Hid (Below w.heap.size w (wr.alloc (.cells #[.int .i64 C4] 3))) := HBW.out.alloc HBW.out.size _
        go_wp2_with (go_at_call 33; refine (HCL.out _).mono ?_; rintro e w2 ⟨rfl, hw2⟩; have hw3 := hw2.symm; subst hw3; clear hw2)
        go_loopg [5, 6] 3 (fun gh v5 v6 wq => wr = wq ∧ ((gh = 3 ∧ v5 = .int .i64 C1 ∧ v6 = .int .i64 1) ∨ (gh = 2 ∧ v5 = .int .i64 C2 ∧ v6 = .int .i64 2) ∨ (gh = 1 ∧ v5 = .int .i64 C3 ∧ v6 = .int .i64 3) ∨ (gh = 0 ∧ v5 = .int .i64 C4 ∧ v6 = .int .i64 4)))
        case atStart => exact ⟨rfl, Or.inl ⟨rfl, rfl, rfl⟩⟩
        case round =>
          obtain ⟨hwq, hcases⟩ := hrel
          subst hwq
          rcases hcases with ⟨rfl, rfl, rfl⟩ | ⟨rfl, rfl, rfl⟩ | ⟨rfl, rfl, rfl⟩ | ⟨rfl, rfl, rfl⟩
          · go_wp2
            go_roundg 2
            case measure => omega
            case rel => exact ⟨rfl, Or.inr (Or.inl ⟨rfl, rfl, rfl⟩)⟩
          · go_wp2
            go_roundg 1
            case measure => omega
            case rel => exact ⟨rfl, Or.inr (Or.inr (Or.inl ⟨rfl, rfl, rfl⟩))⟩
          · go_wp2
            go_roundg 0
            case measure => omega
            case rel => exact ⟨rfl, Or.inr (Or.inr (Or.inr (⟨rfl, rfl, rfl⟩)))⟩
          · go_wp2_with (at_builtin; refine wpList_appendE EZ rfl (.tmp 49) (.tmp 51) rfl w.heap.size _ acc C4 ⟨wr.heap.size, 0, none⟩ 1 rfl HOA.out rfl HNEW.out HSZ.out HBS.out ?_; intro v3 w3 a1 a2 a3; have hb3 := HBA.out.trans (below_ownE HOA.out a2 (Nat.le_refl _) HBS.out); obtain ⟨p9, k9, hv⟩ := OwnE.form a1; rw [List.length_append, List.length_singleton, ← HK.out] at hv; subst hv; have HO3 := hidp a1; have HB3 := hidp hb3; clear hb3 a1 a2 a3)
            go_roundg (gk - 1)
            case measure => omega
            case rel => exact ⟨T.extract 4 r, r - 4, acc ++ [C4], p9, k4 + 1, k9, rfl, rfl, HEXS.out 4, by omega, by omega, (show Hid _ from by show _ = _; rw [List.length_append, ← HK.out]; rfl), (show Hid _ from by show _ = _; rw [HEX.out 4, List.append_assoc]; exact HST.out), HO3, HB3⟩
#print axioms refRunes_any
end Go.Proofs.YtlaeaeciomkabaaDoor
