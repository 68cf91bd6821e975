/-
  Package code: Runes; Text.
-/
import Derived.Test.YtlaeaeciomkababDoorUMath
import Derived.Test.YtlaeaeciomkababDoorShelf
import Derived.Test.YtlaeaeciomkababDoorElB
import Derived.Test.YtlaeaeciomkababDoorElS
import Derived.Test.YtlaeaeciomkababDoorSameZ
import Derived.Test.YtlaeaeciomkababDoorRd
import Derived.Test.YtlaeaeciomkababDoorOwn
namespace Go.Proofs.YtlaeaeciomkababDoor
open Go.RowKit Go.Sort Go.Proofs

/-- The two tables of unicode/utf8. -/
def Utf (w : World) : Prop := Lib.Utf8Tabs 0 1 w
theorem Utf.below {w w' : World} (h : Utf w) (hb : Below w.heap.size w w') : Utf w' := Utf8Tabs_below h hb
theorem decode_any8 {T : ByteArray} {w : World} (hU : Utf w) (h : T.data.toList ≠ []) :
    Calls Tryd.prog 21 #[.string T] w fun e w' => e = .returned (.tuple #[.int .i32 ((decL T.data.toList).1 : Nat), .int .i64 ((decL T.data.toList).2 : Nat)]) ∧ Below w.heap.size w w' := by
  have := Tryd.utf8_DecodeRuneInString T w hU
  rw [decodeGo_eq h] at this
  exact this
theorem emptyU (S : ByteArray) : S.toList.isEmpty = decide (S.data.toList = []) := by
  rw [Lib.toList_data]
  cases S.data.toList <;> rfl
theorem extract_tailU {T : ByteArray} {b r : Nat} (h : T.size = r) : (T.extract b r).data.toList = T.data.toList.drop b := by
  have hl : T.data.toList.length = r := by rw [← Lib.size_eq, h]
  rw [Lib.extract_eq]
  show ((T.data.toList.drop b).take (r - b)).toArray.toList = _
  rw [List.take_of_length_le (by rw [List.length_drop]; omega)]
theorem wrap_byte {b : Nat} (h : b < 256) : wrap64 (b : Int) = (b : Int) ∧ wrap64 (-1 - (b : Int)) = -1 - (b : Int) := by unfold wrap64; omega
theorem wrap_rune {q : Nat} (h : q ≤ 1114111) : wrap64 (q : Int) = (q : Int) ∧ IntKind.i64.wrap (q : Int) = (q : Int) := by rw [IntKind.wrap_i64]; unfold wrap64; omega
theorem runes_long {w : World} {T : ByteArray} (h : 60 < T.size) :
    Calls Tryd.prog 6 #[.string T] w fun e w' => e = .returned (.tuple #[.slice none 0 0, .iface 48 (.int .i64 4)]) ∧ w' = w := by
  obtain ⟨a, ha⟩ : ∃ a, T.size = a := ⟨_, rfl⟩
  have hz : (60 : Int) < (a : Int) := by omega
  clear h
  go_enter Tryd.func6, Tryd.ntmps6
  go_wp2
  go_ret2
  exact ⟨rfl, rfl⟩
set_option maxHeartbeats 16000000 in
set_option maxRecDepth 20000 in
theorem runes_ok {w : World} {T : ByteArray} (h : T.size ≤ 60) (hU : Utf w) :
    Calls Tryd.prog 6 #[.string T] w fun e w' => ∃ u, e = .returned (.tuple #[u, .nilIface]) ∧ SlE EZ w' u (runesS T.data.toList) ∧ Below w.heap.size w w' := by
  obtain ⟨a, ha⟩ : ∃ a, T.size = a := ⟨_, rfl⟩
  have hz : ¬ (60 : Int) < (a : Int) := by omega
  have ha60 : a ≤ 60 := by omega
  have HA := hidp ha
  have HU := hidp hU
  obtain ⟨R, hR⟩ : ∃ R, runesS T.data.toList = R := ⟨_, rfl⟩
  rw [hR]
  have HR0 : Hid (R = [] ++ runesS T.data.toList) := by show _ = _; rw [hR]; rfl
  clear h hU hR
  go_enter Tryd.func6, Tryd.ntmps6
  go_wp2
  have HO1 : Hid (OwnE EZ (w.alloc (.cells #[] 3)) w.heap.size (.slice (some ⟨w.heap.size, 0, none⟩) 0 0) []) := World.ownsRow_lit w #[] 0 (Nat.le_refl _) (by unfold maxLen; omega) (by simp)
  have HB1 : Hid (Below w.heap.size w (w.alloc (.cells #[] 3))) := (Below.refl _ _).alloc (Nat.le_refl _) _
  go_loopg [0, 4] a (fun gh v0 v4 wr => ∃ (T : ByteArray) (r : Nat) (acc : List Int) (p4 : Option Addr) (k4 c4 : Nat), v0 = .string T ∧ v4 = .slice p4 k4 c4 ∧ T.size = r ∧ r ≤ gh ∧ r + k4 ≤ 60 ∧ Hid (k4 = acc.length) ∧ Hid (R = acc ++ runesS T.data.toList) ∧ Hid (OwnE EZ wr w.heap.size (.slice p4 k4 c4) acc) ∧ Hid (Below w.heap.size w wr))
  case atStart => exact ⟨T, a, [], _, 0, 0, rfl, rfl, HA.out, Nat.le_refl _, by omega, (show Hid _ from rfl), HR0, HO1, HB1⟩
  case round =>
    obtain ⟨T, r, acc, p4, k4, c4, rfl, rfl, hTr, hr, hrk, HK, HR, HO, HBW⟩ := hrel
    by_cases h0 : r = 0
    · have hnil : T.data.toList = [] := List.eq_nil_of_length_eq_zero (by rw [← Lib.size_eq, hTr, h0])
      have hE : T.toList.isEmpty = true := by rw [emptyU, hnil]; rfl
      have HF : Hid (R = acc) := by
        show _ = _
        rw [HR.out, hnil, runesS_nil, List.append_nil]
      clear hnil h0
      go_wp2
      go_ret2
      rw [HF.out]
      exact ⟨_, rfl, HO.out.sl, HBW.out⟩
    · have hne : T.data.toList ≠ [] := fun e => h0 (by rw [← hTr, Lib.size_eq, e]; rfl)
      have hE : T.toList.isEmpty = false := by rw [emptyU, decide_eq_false hne]
      have c1 := decode_any8 (HU.out.below HBW.out) hne
      obtain ⟨k1, k2, k3⟩ := decL_len hne
      have hle := decL_le T.data.toList
      have hst := HR.out
      rw [runesS_step hne] at hst
      have hit : itemL T.data.toList = if (decL T.data.toList).1 = 65533 ∧ (decL T.data.toList).2 = 1 then -1 - (bAt T.data.toList 0 : Int) else ((decL T.data.toList).1 : Int) := rfl
      obtain ⟨q, hq⟩ : ∃ q, (decL T.data.toList).1 = q := ⟨_, rfl⟩
      obtain ⟨k, hk⟩ : ∃ k, (decL T.data.toList).2 = k := ⟨_, rfl⟩
      rw [hq, hk] at hit c1
      rw [hk] at hst k1 k2 k3
      rw [hq] at hle
      rw [← Lib.size_eq, hTr] at k2
      have HST := hidp hst
      have HIT := hidp hit
      have C1 := hidp c1
      clear c1 hit hst hq hk
      have h0s : 0 < T.size := by rw [hTr]; exact Nat.pos_of_ne_zero h0
      have hb0 : (T[0]'h0s).toNat = bAt T.data.toList 0 := by
        rw [← get_bang]
        rw [Utf8W.get!_of_lt T 0 h0s]
      have hblt := bAt_lt T.data.toList 0
      obtain ⟨b, hb⟩ : ∃ b, bAt T.data.toList 0 = b := ⟨_, rfl⟩
      rw [hb] at hb0 hblt HIT
      clear hb
      have hw1 := (wrap_byte hblt).1
      have hw2 := (wrap_byte hblt).2
      have hqw := (wrap_rune hle).1
      have hqw2 := (wrap_rune hle).2
      have HKR : k ≤ r := k2
      have hex : (T.extract k r).data.toList = T.data.toList.drop k := extract_tailU hTr
      have hexs : (T.extract k r).size = r - k := by rw [Lib.size_eq, hex, List.length_drop, ← Lib.size_eq, hTr]
      have HEX := hidp hex
      have HEXS := hidp hexs
      have HSZ : Hid (acc.length ≤ 100000) := by show _ ≤ _; rw [← HK.out]; omega
      clear hne hex hexs
      by_cases hbad : q = 65533 ∧ k = 1
      · rw [if_pos hbad] at HIT
        obtain ⟨rfl, rfl⟩ := hbad
        rw [HIT.out] at HST
        go_wp2_with (first | (go_at_call 21; refine C1.out.mono ?_; rintro e w2 ⟨rfl, hb2⟩; have HB2 := hidp (HBW.out.trans (hb2.mono HBW.out.size)); have HOA := hidp ((HO.out.below hb2).alloc (.cells #[.int .i64 (-1 - (b : Int))] 3)); have HNEW := hidp (box_one w2 (-1 - (b : Int))); have HBS : Hid (w.heap.size ≤ (w2.alloc (.cells #[.int .i64 (-1 - (b : Int))] 3)).heap.size) := (by show _ ≤ _; have := HB2.out.size; simp; omega); have HBA : Hid (Below w.heap.size w (w2.alloc (.cells #[.int .i64 (-1 - (b : Int))] 3))) := HB2.out.alloc HB2.out.size _; clear hb2) | (at_builtin; refine wpList_appendE EZ rfl (.tmp 32) (.tmp 34) rfl w.heap.size _ acc (-1 - (b : Int)) ⟨w2.heap.size, 0, none⟩ 1 rfl HOA.out rfl HNEW.out HSZ.out HBS.out ?_; intro v3 w3 a1 a2 a3; have hb3 := HBA.out.trans (below_ownE HOA.out a2 (Nat.le_refl _) HBS.out); obtain ⟨p9, k9, hv⟩ := OwnE.form a1; rw [List.length_append, List.length_singleton, ← HK.out] at hv; subst hv; have HO3 := hidp a1; have HB3 := hidp hb3; clear hb3 a1 a2 a3))
        clear hb0 h0s
        go_roundg (gk - 1)
        case measure => omega
        case rel =>
          exact ⟨T.extract 1 r, r - 1, acc ++ [-1 - (b : Int)], p9, k4 + 1, k9, rfl, rfl, HEXS.out, by omega, by omega, (show Hid _ from by show _ = _; rw [List.length_append, ← HK.out]; rfl), (show Hid _ from by show _ = _; rw [HEX.out, List.append_assoc]; exact HST.out), HO3, HB3⟩
      · clear hb0 h0s hw1 hw2
        rw [if_neg hbad] at HIT
        rw [HIT.out] at HST
        have hd : ((q : Int) == 65533 && (k : Int) == 1) = false := by
          by_cases h1 : q = 65533
          · have h2 : ((k : Int) == 1) = false := beq_eq_false_iff_ne.2 (by omega)
            rw [h2, Bool.and_false]
          · have h2 : ((q : Int) == 65533) = false := beq_eq_false_iff_ne.2 (by omega)
            rw [h2, Bool.false_and]
        have hkz : (0 : Int) ≤ (k : Int) := by omega
        have hkrz : (k : Int) ≤ (r : Int) := by omega
        by_cases hq3 : q = 65533
        · subst hq3
          have hk1 : ((k : Int) == 1) = false := beq_eq_false_iff_ne.2 (by omega)
          go_wp2_with (first | (go_at_call 21; refine C1.out.mono ?_; rintro e w2 ⟨rfl, hb2⟩; have HB2 := hidp (HBW.out.trans (hb2.mono HBW.out.size)); have HOA := hidp ((HO.out.below hb2).alloc (.cells #[.int .i64 65533] 3)); have HNEW := hidp (box_one w2 65533); have HBS : Hid (w.heap.size ≤ (w2.alloc (.cells #[.int .i64 65533] 3)).heap.size) := (by show _ ≤ _; have := HB2.out.size; simp; omega); have HBA : Hid (Below w.heap.size w (w2.alloc (.cells #[.int .i64 65533] 3))) := HB2.out.alloc HB2.out.size _; clear hb2) | (at_builtin; refine wpList_appendE EZ rfl (.tmp 32) (.tmp 34) rfl w.heap.size _ acc 65533 ⟨w2.heap.size, 0, none⟩ 1 rfl HOA.out rfl HNEW.out HSZ.out HBS.out ?_; intro v3 w3 a1 a2 a3; have hb3 := HBA.out.trans (below_ownE HOA.out a2 (Nat.le_refl _) HBS.out); obtain ⟨p9, k9, hv⟩ := OwnE.form a1; rw [List.length_append, List.length_singleton, ← HK.out] at hv; subst hv; have HO3 := hidp a1; have HB3 := hidp hb3; clear hb3 a1 a2 a3))
          go_roundg (gk - 1)
          case measure => omega
          case rel =>
            exact ⟨T.extract k r, r - k, acc ++ [65533], p9, k4 + 1, k9, rfl, rfl, HEXS.out, by omega, by omega, (show Hid _ from by show _ = _; rw [List.length_append, ← HK.out]; rfl), (show Hid _ from by show _ = _; rw [HEX.out, List.append_assoc]; exact HST.out), HO3, HB3⟩
        · have hq4 : ((q : Int) == 65533) = false := beq_eq_false_iff_ne.2 (by omega)
          go_wp2_with (first | (go_at_call 21; refine C1.out.mono ?_; rintro e w2 ⟨rfl, hb2⟩; have HB2 := hidp (HBW.out.trans (hb2.mono HBW.out.size)); have HOA := hidp ((HO.out.below hb2).alloc (.cells #[.int .i64 (q : Int)] 3)); have HNEW := hidp (box_one w2 (q : Int)); have HBS : Hid (w.heap.size ≤ (w2.alloc (.cells #[.int .i64 (q : Int)] 3)).heap.size) := (by show _ ≤ _; have := HB2.out.size; simp; omega); have HBA : Hid (Below w.heap.size w (w2.alloc (.cells #[.int .i64 (q : Int)] 3))) := HB2.out.alloc HB2.out.size _; clear hb2) | (at_builtin; refine wpList_appendE EZ rfl (.tmp 32) (.tmp 34) rfl w.heap.size _ acc (q : Int) ⟨w2.heap.size, 0, none⟩ 1 rfl HOA.out rfl HNEW.out HSZ.out HBS.out ?_; intro v3 w3 a1 a2 a3; have hb3 := HBA.out.trans (below_ownE HOA.out a2 (Nat.le_refl _) HBS.out); obtain ⟨p9, k9, hv⟩ := OwnE.form a1; rw [List.length_append, List.length_singleton, ← HK.out] at hv; subst hv; have HO3 := hidp a1; have HB3 := hidp hb3; clear hb3 a1 a2 a3))
          go_roundg (gk - 1)
          case measure => omega
          case rel =>
            exact ⟨T.extract k r, r - k, acc ++ [(q : Int)], p9, k4 + 1, k9, rfl, rfl, HEXS.out, by omega, by omega, (show Hid _ from by show _ = _; rw [List.length_append, ← HK.out]; rfl), (show Hid _ from by show _ = _; rw [HEX.out, List.append_assoc]; exact HST.out), HO3, HB3⟩
theorem isByte_any (x : Int) (w : World) : Calls Tryd.prog 22 #[.int .i64 x] w fun e w' => e = .returned (.bool (decide (-256 ≤ x ∧ x ≤ -129))) ∧ w' = w := by
  by_cases h0 : -256 ≤ x
  · by_cases h1 : x ≤ -129
    · rw [decide_eq_true ⟨h0, h1⟩]
      go_enter Tryd.func22, Tryd.ntmps22
      go_wp2
      go_ret
      exact ⟨rfl, rfl⟩
    · rw [decide_eq_false (fun q => h1 q.2)]
      go_enter Tryd.func22, Tryd.ntmps22
      go_wp2
      go_ret
      exact ⟨rfl, rfl⟩
  · rw [decide_eq_false (fun q => h0 q.1)]
    go_enter Tryd.func22, Tryd.ntmps22
    go_wp2
    go_ret
    exact ⟨rfl, rfl⟩
theorem isRune_any (x : Int) (w : World) : Calls Tryd.prog 23 #[.int .i64 x] w fun e w' => e = .returned (.bool (Lib.validRune x)) ∧ w' = w := by
  by_cases h0 : 0 ≤ x
  · by_cases h1 : x ≤ 1114111
    · have hw : IntKind.i32.wrap x = x := by rw [IntKind.wrap_i32]; omega
      have C := fun W => Tryd.utf8_ValidRune x W
      generalize Lib.validRune x = b at C ⊢
      go_enter Tryd.func23, Tryd.ntmps23
      go_wp2_with (go_at_call 37; refine (C _).mono ?_; rintro e w' ⟨rfl, rfl⟩)
      go_ret
      exact ⟨rfl, rfl⟩
    · have hv : Lib.validRune x = false := by unfold Lib.validRune; exact decide_eq_false (by omega)
      rw [hv]
      clear hv
      go_enter Tryd.func23, Tryd.ntmps23
      go_wp2
      go_ret
      exact ⟨rfl, rfl⟩
  · have hv : Lib.validRune x = false := by unfold Lib.validRune; exact decide_eq_false (by omega)
    rw [hv]
    clear hv
    go_enter Tryd.func23, Tryd.ntmps23
    go_wp2
    go_ret
    exact ⟨rfl, rfl⟩
theorem conv_own {w : World} {base g c n : Nat} {L : List UInt8} (h : OwnE EB w base (.slice (some ⟨g, 0, none⟩) n c) L) (hn : n = L.length) : (convert 51 9 (.slice (some ⟨g, 0, none⟩) n c)).run Tryd.prog w = .ok (.string ⟨L.toArray⟩) w := by
  subst hn
  rcases Nat.eq_zero_or_pos L.length with h0 | h0
  · obtain rfl := List.eq_nil_of_length_eq_zero h0
    exact run_convert_bytes_back w 51 9 5 ⟨g, 0, none⟩ c [] Tryd.underlying51 Tryd.underlying5 Tryd.underlying9 fun j hj => absurd hj (Nat.not_lt_zero _)
  · obtain ⟨g2, c2, e, _, _, hr, _⟩ := h.some rfl h0
    simp only [Value.slice.injEq, Option.some.injEq, Addr.mk.injEq] at e
    obtain ⟨⟨rfl, _⟩, _, rfl⟩ := e
    exact conv_row hr
theorem own_at {w : World} {base n : Nat} {v : Value} {L : List UInt8} (h : OwnE EB w base v L) (hn : L.length = n) (h0 : 0 < n) : ∃ g c, v = .slice (some ⟨g, 0, none⟩) n c := by
  obtain ⟨g, c, e, _⟩ := h.some hn h0
  exact ⟨g, c, e⟩
theorem cells_U {x : Int} (h : ¬ (-256 ≤ x ∧ x ≤ -129)) (L : List UInt8) : EB.flat L ++ Lib.runeCells x = EB.flat (L ++ encUtf x) ∧ (Lib.runeCells x).length = (encUtf x).length := by
  have e : encUtf x = Lib.encodeRune x := by unfold encUtf; rw [if_neg h]
  rw [e, El.flat_append, flatB (Lib.encodeRune x), ← Lib.byteCells_encodeRune]
  exact ⟨rfl, by unfold Lib.byteCells; rw [List.length_map]⟩
theorem box_byte (W : World) (y : UInt8) (k : Int) (hk : k = (y.toNat : Int)) : ∀ j u, (EB.enc y)[j]? = some u → (W.alloc (.cells #[.int .u8 k] 5)).cell? ((⟨W.heap.size, 0, none⟩ : Addr).add j) = some u := by
  subst hk
  intro j u hu
  match j, hu with
  | 0, hu => cases hu; simp [Addr.add]
  | j + 1, hu => simp [EB, encB8] at hu
theorem appendRune_any {w : World} {base n : Nat} {v : Value} {L : List UInt8} {x : Int} (h : OwnE EB w base v L) (h0 : 0 ≤ x) (h1 : x ≤ 1114111) (hb : base ≤ w.heap.size) (hl : L.length ≤ 60) (hn : L.length + (encUtf x).length = n) :
    Calls Tryd.prog 24 #[v, .int .i32 x] w fun e w' => ∃ g c, e = .returned (.slice (some ⟨g, 0, none⟩) n c) ∧ OwnE EB w' base (.slice (some ⟨g, 0, none⟩) n c) (L ++ encUtf x) ∧ Below base w w' := by
  obtain ⟨e1, e2⟩ := cells_U (x := x) (by omega) L
  have hp := (Lib.runeCells_le x).1
  refine (Tryd.utf8_AppendRune_plain base v L.length (EB.flat L) x (by omega) (by omega) w h (by omega) hb).mono ?_
  rintro e w' ⟨v', rfl, ho, o, hg⟩
  rw [e1, e2, ← List.length_append] at ho
  have ho2 : OwnE EB w' base v' (L ++ encUtf x) := ho
  have hne : 0 < n := by rw [← hn, ← e2]; omega
  have hlen : (L ++ encUtf x).length = n := by rw [List.length_append]; exact hn
  obtain ⟨g, c, rfl⟩ := own_at ho2 hlen hne
  refine ⟨g, c, rfl, ho2, (((Below.refl base w).alloc hb o).trans ?_)⟩
  exact below_ownE (h.alloc o) hg (Nat.le_refl _) (by simp; omega)
theorem textU_err : ∀ {m : List Int} {acc : List UInt8}, (textU m acc).1 ≠ 0 → (textU m acc).2 = []
  | [], _, h => absurd rfl h
  | n :: t, acc, h => by
    by_cases h1 : okZ n = true
    · by_cases h2 : 60 < (acc ++ encUtf n).length
      · rw [textU_full h1 h2]
      · rw [textU_go h1 h2] at h ⊢
        exact textU_err h
    · rw [textU_bad (by simpa using h1)]
set_option maxHeartbeats 16000000 in
set_option maxRecDepth 20000 in
theorem text_any {w : World} {v : Value} {m : List Int} (h : SlE EZ w v m) (hbig : m.length ≤ 9223372036854775807) :
    Calls Tryd.prog 8 #[v] w fun e w' => e = .returned (.tuple #[sV (textU m []).2, errV (textU m []).1]) ∧ Below w.heap.size w w' := by
  obtain ⟨p, cap, rfl, _⟩ := id h
  obtain ⟨k, hk⟩ : ∃ k, m.length = k := ⟨_, rfl⟩
  rw [hk] at h hbig ⊢
  have HU := hidp h
  have HN := hidp hk
  clear h hk
  go_enter Tryd.func8, Tryd.ntmps8
  go_wp2
  have HO1 : Hid (OwnE EB (w.alloc (.cells #[] 5)) w.heap.size (.slice (some ⟨w.heap.size, 0, none⟩) 0 0) []) := World.ownsRow_lit w #[] 0 (Nat.le_refl _) (by unfold maxLen; omega) (by simp)
  have HB1 : Hid (Below w.heap.size w (w.alloc (.cells #[] 5))) := (Below.refl _ _).alloc (Nat.le_refl _) _
  go_loopg [4, 10] k (fun gh v4 vi wr => ∃ (i : Nat) (L : List UInt8) (g4 k4 c4 : Nat), v4 = .slice (some ⟨g4, 0, none⟩) k4 c4 ∧ vi = .int .i64 i ∧ i + gh = k ∧ k4 ≤ 60 ∧ Hid (k4 = L.length) ∧ Hid (textU m [] = textU (m.drop i) L) ∧ Hid (OwnE EB wr w.heap.size (.slice (some ⟨g4, 0, none⟩) k4 c4) L) ∧ Hid (Below w.heap.size w wr))
  case atStart => exact ⟨0, [], w.heap.size, 0, 0, rfl, rfl, by omega, by omega, (show Hid _ from rfl), (show Hid _ from rfl), HO1, HB1⟩
  case round =>
    obtain ⟨i, L, g4, k4, c4, rfl, rfl, hg, hk4, HK, HR, HO, HBW⟩ := hrel
    by_cases hlt : i < k
    · have hlz : (i : Int) < (k : Int) := by omega
      obtain ⟨x, hx⟩ : ∃ x, m[i]? = some x := ⟨_, List.getElem?_eq_getElem (by have := HN.out; omega)⟩
      have hdr : m.drop i = x :: m.drop (i + 1) := by
        obtain ⟨h1, h2⟩ := List.getElem?_eq_some_iff.1 hx
        rw [← h2, List.getElem_cons_drop]
      rw [hdr] at HR
      obtain ⟨b1, o1, rfl, _, _, hr1⟩ := (HU.out.below HBW.out).some (by omega)
      have c0 := hr1.int hx
      have CB := hidp (fun W => isByte_any x W)
      have CR := hidp (fun W => isRune_any x W)
      clear hx hr1 hdr
      by_cases hB : -256 ≤ x ∧ x ≤ -129
      · have hd : decide (-256 ≤ x ∧ x ≤ -129) = true := decide_eq_true hB
        have hok : okZ x = true := by unfold okZ; rw [hd]; rfl
        obtain ⟨y, hy⟩ : ∃ y : UInt8, (-1 - x).toNat.toUInt8 = y := ⟨_, rfl⟩
        have hyz : -1 - x = (y.toNat : Int) := by rw [← hy, Nat.toUInt8, UInt8.toNat_ofNat']; omega
        have he : encUtf x = [y] := by unfold encUtf; rw [if_pos hB, hy]
        have hw1 : wrap64 (-1 - x) = -1 - x := by unfold wrap64; omega
        have hw2 : IntKind.u8.wrap (-1 - x) = -1 - x := by rw [IntKind.wrap_u8]; omega
        have HOA := hidp (HO.out.alloc (.cells #[.int .u8 (-1 - x)] 5))
        have HNEW := hidp (box_byte wr y (-1 - x) hyz)
        have HBS : Hid (w.heap.size ≤ (wr.alloc (.cells #[.int .u8 (-1 - x)] 5)).heap.size) := by show _ ≤ _; have := HBW.out.size; simp; omega
        have HBA : Hid (Below w.heap.size w (wr.alloc (.cells #[.int .u8 (-1 - x)] 5))) := HBW.out.alloc HBW.out.size _
        have HSZ : Hid (L.length ≤ 100000) := by show _ ≤ _; rw [← HK.out]; omega
        have hnw : wrap64 ((k4 + 1 : Nat) : Int) = ((k4 + 1 : Nat) : Int) := by unfold wrap64; omega
        rw [hd] at CB
        clear hd hy hyz hB CR
        by_cases h60 : k4 = 60
        · have HF : Hid (textU m [] = (4, [])) := by show _ = _; rw [HR.out]; exact textU_full hok (by rw [he, List.length_append, ← HK.out, h60, List.length_singleton]; omega)
          subst h60
          clear hok he
          go_wp2_with (first | (go_at_call 22; refine (CB.out _).mono ?_; rintro e w2 ⟨rfl, rfl⟩) | (at_builtin; refine wpList_appendE EB rfl (.tmp 18) (.tmp 22) rfl w.heap.size _ L y ⟨w2.heap.size, 0, none⟩ 1 rfl HOA.out rfl HNEW.out HSZ.out HBS.out ?_; intro v3 w3 a1 a2 a3; have hb3 := HBA.out.trans (below_ownE HOA.out a2 (Nat.le_refl _) HBS.out); obtain ⟨g9, k9, hv⟩ := own_at (n := 61) a1 (by rw [List.length_append, ← HK.out]; rfl) (by omega); subst hv; have HB3 := hidp hb3; clear hb3 a1 a2 a3))
          go_ret2
          exact ⟨by rw [HF.out]; rfl, HB3.out⟩
        · have hk5 : k4 + 1 ≤ 60 := by omega
          have hnz : ¬ (60 : Int) < ((k4 + 1 : Nat) : Int) := by omega
          have HF : Hid (textU m [] = textU (m.drop (i + 1)) (L ++ [y])) := by show _ = _; rw [HR.out, ← he]; exact textU_go hok (by rw [he, List.length_append, ← HK.out, List.length_singleton]; omega)
          clear hok he
          go_wp2_with (first | (go_at_call 22; refine (CB.out _).mono ?_; rintro e w2 ⟨rfl, rfl⟩) | (at_builtin; refine wpList_appendE EB rfl (.tmp 18) (.tmp 22) rfl w.heap.size _ L y ⟨w2.heap.size, 0, none⟩ 1 rfl HOA.out rfl HNEW.out HSZ.out HBS.out ?_; intro v3 w3 a1 a2 a3; have hb3 := HBA.out.trans (below_ownE HOA.out a2 (Nat.le_refl _) HBS.out); obtain ⟨g9, k9, hv⟩ := own_at (n := k4 + 1) a1 (by rw [List.length_append, ← HK.out]; rfl) (by omega); subst hv; have HO3 := hidp a1; have HB3 := hidp hb3; clear hb3 a1 a2 a3))
          go_roundg (gk - 1)
          case measure => omega
          case rel =>
            exact ⟨i + 1, L ++ [y], g9, k4 + 1, k9, rfl, by go_num, by omega, hk5, (show Hid _ from by show _ = _; rw [List.length_append, ← HK.out]; rfl), HF, HO3, HB3⟩
      · have hd : decide (-256 ≤ x ∧ x ≤ -129) = false := decide_eq_false hB
        rw [hd] at CB
        by_cases hv : Lib.validRune x = true
        · have hok : okZ x = true := by unfold okZ; rw [hv, Bool.or_true]
          have hr : 0 ≤ x ∧ x ≤ 1114111 := by unfold Lib.validRune at hv; have := of_decide_eq_true hv; omega
          rw [hv] at CR
          have hw1 : IntKind.i32.wrap x = x := by rw [IntKind.wrap_i32]; omega
          have h4 := encU_le x
          obtain ⟨u, hu⟩ : ∃ u, (encUtf x).length = u := ⟨_, rfl⟩
          have HBS := hidp HBW.out.size
          have HCA := hidp (appendRune_any (n := k4 + u) HO.out hr.1 hr.2 HBW.out.size (by rw [← HK.out]; exact hk4) (by rw [← HK.out, hu]))
          rw [hu] at h4
          have HLE : Hid ((L ++ encUtf x).length = k4 + u) := by show _ = _; rw [List.length_append, ← HK.out, hu]
          clear hd hB hv hr hu
          by_cases h60 : 60 < k4 + u
          · have HF : Hid (textU m [] = (4, [])) := by show _ = _; rw [HR.out]; exact textU_full hok (by rw [HLE.out]; exact h60)
            have hnz : (60 : Int) < ((k4 + u : Nat) : Int) := by omega
            clear hok h60
            go_wp2_with (first | (go_at_call 22; refine (CB.out _).mono ?_; rintro e w2 ⟨rfl, rfl⟩) | (go_at_call 23; refine (CR.out _).mono ?_; rintro e w2 ⟨rfl, rfl⟩) | (go_at_call 24; refine HCA.out.mono ?_; rintro e w3 ⟨g9, k9, rfl, a1, hb3⟩; have HB3 := hidp (HBW.out.trans hb3); clear hb3 a1))
            go_ret2
            exact ⟨by rw [HF.out]; rfl, HB3.out⟩
          · have HF : Hid (textU m [] = textU (m.drop (i + 1)) (L ++ encUtf x)) := by show _ = _; rw [HR.out]; exact textU_go hok (by rw [HLE.out]; exact h60)
            have hk5 : k4 + u ≤ 60 := by omega
            have hnz : ¬ (60 : Int) < ((k4 + u : Nat) : Int) := by omega
            clear hok h60
            go_wp2_with (first | (go_at_call 22; refine (CB.out _).mono ?_; rintro e w2 ⟨rfl, rfl⟩) | (go_at_call 23; refine (CR.out _).mono ?_; rintro e w2 ⟨rfl, rfl⟩) | (go_at_call 24; refine HCA.out.mono ?_; rintro e w3 ⟨g9, k9, rfl, a1, hb3⟩; have HO3 := hidp a1; have HB3 := hidp (HBW.out.trans hb3); clear hb3 a1))
            go_roundg (gk - 1)
            case measure => omega
            case rel =>
              exact ⟨i + 1, L ++ encUtf x, g9, k4 + u, k9, rfl, by go_num, by omega, hk5, (show Hid _ from HLE.out.symm), HF, HO3, HB3⟩
        · have hv : Lib.validRune x = false := by simpa using hv
          have hok : okZ x = false := by unfold okZ; rw [hd, hv]; rfl
          rw [hv] at CR
          have HF : Hid (textU m [] = (1, [])) := by show _ = _; rw [HR.out]; exact textU_bad hok
          clear hd hB hv hok
          go_wp2_with (first | (go_at_call 22; refine (CB.out _).mono ?_; rintro e w2 ⟨rfl, rfl⟩) | (go_at_call 23; refine (CR.out _).mono ?_; rintro e w2 ⟨rfl, rfl⟩))
          go_ret2
          exact ⟨by rw [HF.out]; rfl, HBW.out⟩
    · have hlz : ¬ (i : Int) < (k : Int) := by omega
      have hF := HR.out
      rw [List.drop_of_length_le (by have := HN.out; omega)] at hF
      have HF := hidp hF
      have hc := conv_own HO.out HK.out
      clear hF hlt
      go_wp2
      go_ret2
      exact ⟨by rw [HF.out]; rfl, HBW.out⟩
#print axioms text_any
end Go.Proofs.YtlaeaeciomkababDoor
