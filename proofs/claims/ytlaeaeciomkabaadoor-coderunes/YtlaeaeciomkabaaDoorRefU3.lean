/-
  The document's Text.
-/
import Derived.Test.YtlaeaeciomkabaaDoorRefU1
import Derived.Test.YtlaeaeciomkabaaDoorCoRu
import Derived.Test.YtlaeaeciomkabaaDoorAppE
namespace Go.Proofs.YtlaeaeciomkabaaDoor
open Go.RowKit Go.Sort Go.Proofs

theorem in8_any (n lo hi : Int) (w : World) : Calls Tryd.prog 25 #[.int .i64 n, .int .i64 lo, .int .i64 hi] w fun e w' => e = .returned (.bool (btw n lo hi)) ∧ w = w' := by
  by_cases h0 : lo ≤ n
  · by_cases h1 : n ≤ hi
    · rw [btw_t ⟨h0, h1⟩]
      go_enter Tryd.func25, Tryd.ntmps25
      go_wp2
      go_ret
      exact ⟨rfl, rfl⟩
    · rw [btw_f (fun q => h1 q.2)]
      go_enter Tryd.func25, Tryd.ntmps25
      go_wp2
      go_ret
      exact ⟨rfl, rfl⟩
  · rw [btw_f (fun q => h0 q.1)]
    go_enter Tryd.func25, Tryd.ntmps25
    go_wp2
    go_ret
    exact ⟨rfl, rfl⟩
/-- A number's bytes, new in memory. -/
theorem new_num (W : World) (x : Int) (T : TypeId) (L : List Int) (n : Nat) (hL : encZ8 x = L) (hn : L.length = n) : SlE EB (W.alloc (.cells ((L.map fun z => Value.int .u8 z).toArray) T)) (.slice (some ⟨W.heap.size, 0, none⟩) n n) (encU x) ∧ (encU x).length = n := by
  have hb : ∀ z ∈ encZ8 x, 0 ≤ z ∧ z < 256 := by
    intro z hz
    unfold encZ8 at hz
    split at hz
    · simp only [List.mem_cons, List.not_mem_nil, or_false] at hz; omega
    · exact Lib.encodeRuneZ_byte x z hz
  have e : (encU x).map (fun b => Value.int .u8 (b.toNat : Int)) = L.map fun z => Value.int .u8 z := by
    rw [encU_eq, ← hL]
    unfold toB
    rw [List.map_map]
    apply List.map_congr_left
    intro z hz
    obtain ⟨h0, h1⟩ := hb z hz
    simp only [Function.comp]
    congr 1
    rw [Nat.toUInt8, UInt8.toNat_ofNat']
    omega
  have hl : (encU x).length = n := by
    have := congrArg List.length e
    rw [List.length_map, List.length_map] at this
    rw [this, hn]
  have := (new_bytes W (encU x) T).rd
  rw [e] at this
  exact ⟨SlE.of_rd this hl (Nat.le_refl _), hl⟩
theorem z_byte {x : Int} (h : -256 ≤ x ∧ x ≤ -129) : encZ8 x = [-1 - x] := if_pos h
theorem z_one {x : Int} (h : 0 ≤ x) (h1 : x ≤ 127) : encZ8 x = [x] := by unfold encZ8; rw [if_neg (by omega), Lib.encodeRuneZ_one h h1]
theorem z_two {x : Int} (h : 128 ≤ x) (h1 : x ≤ 2047) : encZ8 x = [192 + x / 64, 128 + x % 64] := by unfold encZ8; rw [if_neg (by omega), Lib.encodeRuneZ_two h h1]
theorem z_three {x : Int} (h : (2048 ≤ x ∧ x ≤ 55295) ∨ (57344 ≤ x ∧ x ≤ 65535)) : encZ8 x = [224 + x / 4096, 128 + x / 64 % 64, 128 + x % 64] := by unfold encZ8; rw [if_neg (by omega), Lib.encodeRuneZ_three (by omega)]
theorem z_four {x : Int} (h : 65536 ≤ x) (h1 : x ≤ 1114111) : encZ8 x = [240 + x / 262144, 128 + x / 4096 % 64, 128 + x / 64 % 64, 128 + x % 64] := by unfold encZ8; rw [if_neg (by omega), Lib.encodeRuneZ_four h h1]
theorem ok_in {x : Int} (h : (-256 ≤ x ∧ x ≤ -129) ∨ (0 ≤ x ∧ x ≤ 55295) ∨ (57344 ≤ x ∧ x ≤ 1114111)) : okZ x = true := by
  unfold okZ Lib.validRune
  rw [Bool.or_eq_true]
  rcases h with h | h
  · exact Or.inl (decide_eq_true h)
  · exact Or.inr (decide_eq_true (by omega))
theorem ok_out {x : Int} (h : ¬ ((-256 ≤ x ∧ x ≤ -129) ∨ (0 ≤ x ∧ x ≤ 55295) ∨ (57344 ≤ x ∧ x ≤ 1114111))) : okZ x = false := by
  unfold okZ Lib.validRune
  rw [Bool.or_eq_false_iff]
  exact ⟨decide_eq_false (by omega), decide_eq_false (by omega)⟩
theorem tdiv_eq {x k : Int} (h : 0 ≤ x) : Int.tdiv x k = x / k := Int.tdiv_eq_ediv_of_nonneg h
theorem tmod_eq {x k : Int} (h : 0 ≤ x) : Int.tmod x k = x % k := Int.tmod_eq_emod_of_nonneg h
theorem conv_own2 {w : World} {base c n : Nat} {p : Option Addr} {L : List UInt8} (h : OwnE EB w base (.slice p n c) L) (hn : n = L.length) : (convert 66 9 (.slice p n c)).run Tryd.prog w = .ok (.string ⟨L.toArray⟩) w := by
  subst hn
  obtain ⟨_, ⟨e, h0⟩ | ⟨g, cap, cur, e, _⟩⟩ := id h
  · simp only [Value.slice.injEq] at e
    obtain ⟨rfl, h1, rfl⟩ := e
    obtain rfl := List.eq_nil_of_length_eq_zero h0
    exact run_convert_bytes_nil w 66 5 Tryd.underlying66 Tryd.underlying5 _ _ 9 Tryd.underlying9
  · simp only [Value.slice.injEq] at e
    obtain ⟨rfl, _, rfl⟩ := e
    exact conv_own h rfl
set_option maxHeartbeats 32000000 in
set_option maxRecDepth 20000 in
theorem refText_any {w : World} {v : Value} {m : List Int} (h : SlE EZ w v m) (hbig : m.length ≤ 9223372036854775807) :
    Calls Tryd.prog 23 #[v] w fun e w' => e = .returned (.tuple #[sV (textU m []).2, .int .i64 (textU m []).1]) ∧ Below w.heap.size w w' := by
  obtain ⟨p, cap, rfl, _⟩ := id h
  obtain ⟨k, hk⟩ : ∃ k, m.length = k := ⟨_, rfl⟩
  rw [hk] at h hbig ⊢
  have HU := hidp h
  have HN := hidp hk
  have HO1 : Hid (OwnE EB w w.heap.size (.slice none 0 0) []) := OwnE.nil EB w w.heap.size
  have HB1 : Hid (Below w.heap.size w w) := Below.refl _ _
  clear h hk
  go_enter Tryd.func23, Tryd.ntmps23
  go_wp2
  go_loopg [4, 5] k (fun gh v4 vi wr => ∃ (i : Nat) (L : List UInt8) (p4 : Option Addr) (k4 c4 : Nat), v4 = .slice p4 k4 c4 ∧ vi = .int .i64 i ∧ i + gh = k ∧ k4 ≤ 60 ∧ Hid (k4 = L.length) ∧ Hid (textU m [] = textU (m.drop i) L) ∧ Hid (OwnE EB wr w.heap.size (.slice p4 k4 c4) L) ∧ Hid (Below w.heap.size w wr))
  case atStart => exact ⟨0, [], none, 0, 0, rfl, rfl, by omega, by omega, (show Hid _ from rfl), (show Hid _ from rfl), HO1, HB1⟩
  case round =>
    obtain ⟨i, L, p4, k4, c4, rfl, rfl, hg, hk4, HK, HR, HO, HBW⟩ := hrel
    by_cases hlt : i < k
    · have hlz : (i : Int) < (k : Int) := by omega
      obtain ⟨x, hx⟩ : ∃ x, m[i]? = some x := ⟨_, List.getElem?_eq_getElem (by have := HN.out; omega)⟩
      have hdr : m.drop i = x :: m.drop (i + 1) := by
        obtain ⟨h1, h2⟩ := List.getElem?_eq_some_iff.1 hx
        rw [← h2, List.getElem_cons_drop]
      rw [hdr] at HR
      obtain ⟨b1, o1, rfl, _, _, hr1⟩ := (HU.out.below HBW.out).some (by omega)
      have c0 := hr1.int hx
      clear hx hr1 hdr
      by_cases hall : (-256 ≤ x ∧ x ≤ -129) ∨ (0 ≤ x ∧ x ≤ 55295) ∨ (57344 ≤ x ∧ x ≤ 1114111)
      · rcases (show (-256 ≤ x ∧ x ≤ -129) ∨ (0 ≤ x ∧ x ≤ 127) ∨ (128 ≤ x ∧ x ≤ 2047) ∨ (2048 ≤ x ∧ x ≤ 55295) ∨ (57344 ≤ x ∧ x ≤ 65535) ∨ (65536 ≤ x ∧ x ≤ 1114111) by omega) with h | h | h | h | h | h
        · have hok : okZ x = true := ok_in (by omega)
          have d0 : btw x (-256) (-129) = true := btw_t (by omega)
          have wa : wrap64 (-1 - x) = -1 - x := by unfold wrap64; omega
          have wb : IntKind.u8.wrap (-1 - x) = -1 - x := by rw [IntKind.wrap_u8]; omega
          obtain ⟨hsl, hln⟩ := new_num wr x 5 [-1 - x] 1 (z_byte h) rfl
          have HSL : Hid (SlE EB (wr.alloc (.cells #[.int .u8 (-1 - x)] 5)) (.slice (some ⟨wr.heap.size, 0, none⟩) 1 1) (encU x)) := hsl
          have HOA := hidp (HO.out.alloc (.cells #[.int .u8 (-1 - x)] 5))
          have HBS : Hid (w.heap.size ≤ (wr.alloc (.cells #[.int .u8 (-1 - x)] 5)).heap.size) := by show _ ≤ _; have := HBW.out.size; simp; omega
          have HBA : Hid (Below w.heap.size w (wr.alloc (.cells #[.int .u8 (-1 - x)] 5))) := HBW.out.alloc HBW.out.size _
          have HSZ : Hid (L.length + (encU x).length ≤ 1000000) := by show _ ≤ _; rw [← HK.out, hln]; omega
          have HLE : Hid ((L ++ encU x).length = k4 + 1) := by show _ = _; rw [List.length_append, ← HK.out, hln]
          clear hsl hln h
          by_cases h60 : 60 < k4 + 1
          · have HF : Hid (textU m [] = (4, [])) := by show _ = _; rw [HR.out]; exact textU_full hok (by rw [HLE.out]; exact h60)
            have hnz : (60 : Int) < ((k4 + 1 : Nat) : Int) := by omega
            clear hok h60
            go_wp2_with (first | (go_at_call 25; refine (in8_any _ _ _ _).mono ?_; rintro e w2 ⟨rfl, rfl⟩) | (at_builtin; refine wpList_append_slE EB rfl (.tmp 19) (.tmp 23) rfl w.heap.size _ _ L (encU x) rfl rfl HOA.out HSL.out HSZ.out HBS.out ?_; intro v3 w3 a1 a2; have hb3 := HBA.out.trans (below_ownE HOA.out a2 (Nat.le_refl _) HBS.out); obtain ⟨g9, k9, hv⟩ := own_at (n := k4 + 1) a1 HLE.out (by omega); subst hv; have HO3 := hidp a1; have HB3 := hidp hb3; clear hb3 a1 a2))
            go_ret2
            exact ⟨by rw [HF.out]; rfl, HB3.out⟩
          · have HF : Hid (textU m [] = textU (m.drop (i + 1)) (L ++ encU x)) := by show _ = _; rw [HR.out]; exact textU_go hok (by rw [HLE.out]; exact h60)
            have hk5 : k4 + 1 ≤ 60 := by omega
            have hnz : ¬ (60 : Int) < ((k4 + 1 : Nat) : Int) := by omega
            clear hok h60
            go_wp2_with (first | (go_at_call 25; refine (in8_any _ _ _ _).mono ?_; rintro e w2 ⟨rfl, rfl⟩) | (at_builtin; refine wpList_append_slE EB rfl (.tmp 19) (.tmp 23) rfl w.heap.size _ _ L (encU x) rfl rfl HOA.out HSL.out HSZ.out HBS.out ?_; intro v3 w3 a1 a2; have hb3 := HBA.out.trans (below_ownE HOA.out a2 (Nat.le_refl _) HBS.out); obtain ⟨g9, k9, hv⟩ := own_at (n := k4 + 1) a1 HLE.out (by omega); subst hv; have HO3 := hidp a1; have HB3 := hidp hb3; clear hb3 a1 a2))
            go_roundg (gk - 1)
            case measure => omega
            case rel => exact ⟨i + 1, L ++ encU x, _, k4 + 1, k9, rfl, by go_num, by omega, hk5, (show Hid _ from HLE.out.symm), HF, HO3, HB3⟩
        · have hok : okZ x = true := ok_in (by omega)
          have d0 : btw x (-256) (-129) = false := btw_f (by omega)
          have d1 : btw x 0 127 = true := btw_t (by omega)
          have wb : IntKind.u8.wrap x = x := by rw [IntKind.wrap_u8]; omega
          obtain ⟨hsl, hln⟩ := new_num wr x 5 [x] 1 (z_one h.1 h.2) rfl
          have HSL : Hid (SlE EB (wr.alloc (.cells #[.int .u8 x] 5)) (.slice (some ⟨wr.heap.size, 0, none⟩) 1 1) (encU x)) := hsl
          have HOA := hidp (HO.out.alloc (.cells #[.int .u8 x] 5))
          have HBS : Hid (w.heap.size ≤ (wr.alloc (.cells #[.int .u8 x] 5)).heap.size) := by show _ ≤ _; have := HBW.out.size; simp; omega
          have HBA : Hid (Below w.heap.size w (wr.alloc (.cells #[.int .u8 x] 5))) := HBW.out.alloc HBW.out.size _
          have HSZ : Hid (L.length + (encU x).length ≤ 1000000) := by show _ ≤ _; rw [← HK.out, hln]; omega
          have HLE : Hid ((L ++ encU x).length = k4 + 1) := by show _ = _; rw [List.length_append, ← HK.out, hln]
          clear hsl hln h
          by_cases h60 : 60 < k4 + 1
          · have HF : Hid (textU m [] = (4, [])) := by show _ = _; rw [HR.out]; exact textU_full hok (by rw [HLE.out]; exact h60)
            have hnz : (60 : Int) < ((k4 + 1 : Nat) : Int) := by omega
            clear hok h60
            go_wp2_with (first | (go_at_call 25; refine (in8_any _ _ _ _).mono ?_; rintro e w2 ⟨rfl, rfl⟩) | (at_builtin; refine wpList_append_slE EB rfl (.tmp 27) (.tmp 30) rfl w.heap.size _ _ L (encU x) rfl rfl HOA.out HSL.out HSZ.out HBS.out ?_; intro v3 w3 a1 a2; have hb3 := HBA.out.trans (below_ownE HOA.out a2 (Nat.le_refl _) HBS.out); obtain ⟨g9, k9, hv⟩ := own_at (n := k4 + 1) a1 HLE.out (by omega); subst hv; have HO3 := hidp a1; have HB3 := hidp hb3; clear hb3 a1 a2))
            go_ret2
            exact ⟨by rw [HF.out]; rfl, HB3.out⟩
          · have HF : Hid (textU m [] = textU (m.drop (i + 1)) (L ++ encU x)) := by show _ = _; rw [HR.out]; exact textU_go hok (by rw [HLE.out]; exact h60)
            have hk5 : k4 + 1 ≤ 60 := by omega
            have hnz : ¬ (60 : Int) < ((k4 + 1 : Nat) : Int) := by omega
            clear hok h60
            go_wp2_with (first | (go_at_call 25; refine (in8_any _ _ _ _).mono ?_; rintro e w2 ⟨rfl, rfl⟩) | (at_builtin; refine wpList_append_slE EB rfl (.tmp 27) (.tmp 30) rfl w.heap.size _ _ L (encU x) rfl rfl HOA.out HSL.out HSZ.out HBS.out ?_; intro v3 w3 a1 a2; have hb3 := HBA.out.trans (below_ownE HOA.out a2 (Nat.le_refl _) HBS.out); obtain ⟨g9, k9, hv⟩ := own_at (n := k4 + 1) a1 HLE.out (by omega); subst hv; have HO3 := hidp a1; have HB3 := hidp hb3; clear hb3 a1 a2))
            go_roundg (gk - 1)
            case measure => omega
            case rel => exact ⟨i + 1, L ++ encU x, _, k4 + 1, k9, rfl, by go_num, by omega, hk5, (show Hid _ from HLE.out.symm), HF, HO3, HB3⟩
        · have hok : okZ x = true := ok_in (by omega)
          have d0 : btw x (-256) (-129) = false := btw_f (by omega)
          have d1 : btw x 0 127 = false := btw_f (by omega)
          have d2 : btw x 128 2047 = true := btw_t (by omega)
          have x0 : 0 ≤ x := by omega
          have td64 : Int.tdiv x 64 = x / 64 := tdiv_eq x0
          have wd64 : wrap64 (x / 64) = x / 64 := by unfold wrap64; omega
          have tm : Int.tmod x 64 = x % 64 := tmod_eq x0
          have wm : wrap64 (x % 64) = x % 64 := by unfold wrap64; omega
          have wv0 : wrap64 (192 + x / 64) = 192 + x / 64 := by unfold wrap64; omega
          have wu0 : IntKind.u8.wrap (192 + x / 64) = 192 + x / 64 := by rw [IntKind.wrap_u8]; omega
          have wv1 : wrap64 (128 + x % 64) = 128 + x % 64 := by unfold wrap64; omega
          have wu1 : IntKind.u8.wrap (128 + x % 64) = 128 + x % 64 := by rw [IntKind.wrap_u8]; omega
          obtain ⟨hsl, hln⟩ := new_num wr x 5 [192 + x / 64, 128 + x % 64] 2 (z_two h.1 h.2) rfl
          have HSL : Hid (SlE EB (wr.alloc (.cells #[.int .u8 (192 + x / 64), .int .u8 (128 + x % 64)] 5)) (.slice (some ⟨wr.heap.size, 0, none⟩) 2 2) (encU x)) := hsl
          have HOA := hidp (HO.out.alloc (.cells #[.int .u8 (192 + x / 64), .int .u8 (128 + x % 64)] 5))
          have HBS : Hid (w.heap.size ≤ (wr.alloc (.cells #[.int .u8 (192 + x / 64), .int .u8 (128 + x % 64)] 5)).heap.size) := by show _ ≤ _; have := HBW.out.size; simp; omega
          have HBA : Hid (Below w.heap.size w (wr.alloc (.cells #[.int .u8 (192 + x / 64), .int .u8 (128 + x % 64)] 5))) := HBW.out.alloc HBW.out.size _
          have HSZ : Hid (L.length + (encU x).length ≤ 1000000) := by show _ ≤ _; rw [← HK.out, hln]; omega
          have HLE : Hid ((L ++ encU x).length = k4 + 2) := by show _ = _; rw [List.length_append, ← HK.out, hln]
          clear hsl hln h
          by_cases h60 : 60 < k4 + 2
          · have HF : Hid (textU m [] = (4, [])) := by show _ = _; rw [HR.out]; exact textU_full hok (by rw [HLE.out]; exact h60)
            have hnz : (60 : Int) < ((k4 + 2 : Nat) : Int) := by omega
            clear hok h60
            go_wp2_with (first | (go_at_call 25; refine (in8_any _ _ _ _).mono ?_; rintro e w2 ⟨rfl, rfl⟩) | (at_builtin; refine wpList_append_slE EB rfl (.tmp 34) (.tmp 43) rfl w.heap.size _ _ L (encU x) rfl rfl HOA.out HSL.out HSZ.out HBS.out ?_; intro v3 w3 a1 a2; have hb3 := HBA.out.trans (below_ownE HOA.out a2 (Nat.le_refl _) HBS.out); obtain ⟨g9, k9, hv⟩ := own_at (n := k4 + 2) a1 HLE.out (by omega); subst hv; have HO3 := hidp a1; have HB3 := hidp hb3; clear hb3 a1 a2))
            go_ret2
            exact ⟨by rw [HF.out]; rfl, HB3.out⟩
          · have HF : Hid (textU m [] = textU (m.drop (i + 1)) (L ++ encU x)) := by show _ = _; rw [HR.out]; exact textU_go hok (by rw [HLE.out]; exact h60)
            have hk5 : k4 + 2 ≤ 60 := by omega
            have hnz : ¬ (60 : Int) < ((k4 + 2 : Nat) : Int) := by omega
            clear hok h60
            go_wp2_with (first | (go_at_call 25; refine (in8_any _ _ _ _).mono ?_; rintro e w2 ⟨rfl, rfl⟩) | (at_builtin; refine wpList_append_slE EB rfl (.tmp 34) (.tmp 43) rfl w.heap.size _ _ L (encU x) rfl rfl HOA.out HSL.out HSZ.out HBS.out ?_; intro v3 w3 a1 a2; have hb3 := HBA.out.trans (below_ownE HOA.out a2 (Nat.le_refl _) HBS.out); obtain ⟨g9, k9, hv⟩ := own_at (n := k4 + 2) a1 HLE.out (by omega); subst hv; have HO3 := hidp a1; have HB3 := hidp hb3; clear hb3 a1 a2))
            go_roundg (gk - 1)
            case measure => omega
            case rel => exact ⟨i + 1, L ++ encU x, _, k4 + 2, k9, rfl, by go_num, by omega, hk5, (show Hid _ from HLE.out.symm), HF, HO3, HB3⟩
        · have hok : okZ x = true := ok_in (by omega)
          have d0 : btw x (-256) (-129) = false := btw_f (by omega)
          have d1 : btw x 0 127 = false := btw_f (by omega)
          have d2 : btw x 128 2047 = false := btw_f (by omega)
          have d3 : btw x 2048 55295 = true := btw_t (by omega)
          have x0 : 0 ≤ x := by omega
          have td4096 : Int.tdiv x 4096 = x / 4096 := tdiv_eq x0
          have wd4096 : wrap64 (x / 4096) = x / 4096 := by unfold wrap64; omega
          have td64 : Int.tdiv x 64 = x / 64 := tdiv_eq x0
          have wd64 : wrap64 (x / 64) = x / 64 := by unfold wrap64; omega
          have tm64 : Int.tmod (x / 64) 64 = x / 64 % 64 := tmod_eq (by omega)
          have wm64 : wrap64 (x / 64 % 64) = x / 64 % 64 := by unfold wrap64; omega
          have tm : Int.tmod x 64 = x % 64 := tmod_eq x0
          have wm : wrap64 (x % 64) = x % 64 := by unfold wrap64; omega
          have wv0 : wrap64 (224 + x / 4096) = 224 + x / 4096 := by unfold wrap64; omega
          have wu0 : IntKind.u8.wrap (224 + x / 4096) = 224 + x / 4096 := by rw [IntKind.wrap_u8]; omega
          have wv1 : wrap64 (128 + x / 64 % 64) = 128 + x / 64 % 64 := by unfold wrap64; omega
          have wu1 : IntKind.u8.wrap (128 + x / 64 % 64) = 128 + x / 64 % 64 := by rw [IntKind.wrap_u8]; omega
          have wv2 : wrap64 (128 + x % 64) = 128 + x % 64 := by unfold wrap64; omega
          have wu2 : IntKind.u8.wrap (128 + x % 64) = 128 + x % 64 := by rw [IntKind.wrap_u8]; omega
          obtain ⟨hsl, hln⟩ := new_num wr x 5 [224 + x / 4096, 128 + x / 64 % 64, 128 + x % 64] 3 (z_three (Or.inl h)) rfl
          have HSL : Hid (SlE EB (wr.alloc (.cells #[.int .u8 (224 + x / 4096), .int .u8 (128 + x / 64 % 64), .int .u8 (128 + x % 64)] 5)) (.slice (some ⟨wr.heap.size, 0, none⟩) 3 3) (encU x)) := hsl
          have HOA := hidp (HO.out.alloc (.cells #[.int .u8 (224 + x / 4096), .int .u8 (128 + x / 64 % 64), .int .u8 (128 + x % 64)] 5))
          have HBS : Hid (w.heap.size ≤ (wr.alloc (.cells #[.int .u8 (224 + x / 4096), .int .u8 (128 + x / 64 % 64), .int .u8 (128 + x % 64)] 5)).heap.size) := by show _ ≤ _; have := HBW.out.size; simp; omega
          have HBA : Hid (Below w.heap.size w (wr.alloc (.cells #[.int .u8 (224 + x / 4096), .int .u8 (128 + x / 64 % 64), .int .u8 (128 + x % 64)] 5))) := HBW.out.alloc HBW.out.size _
          have HSZ : Hid (L.length + (encU x).length ≤ 1000000) := by show _ ≤ _; rw [← HK.out, hln]; omega
          have HLE : Hid ((L ++ encU x).length = k4 + 3) := by show _ = _; rw [List.length_append, ← HK.out, hln]
          clear hsl hln h
          by_cases h60 : 60 < k4 + 3
          · have HF : Hid (textU m [] = (4, [])) := by show _ = _; rw [HR.out]; exact textU_full hok (by rw [HLE.out]; exact h60)
            have hnz : (60 : Int) < ((k4 + 3 : Nat) : Int) := by omega
            clear hok h60
            go_wp2_with (first | (go_at_call 25; refine (in8_any _ _ _ _).mono ?_; rintro e w2 ⟨rfl, rfl⟩) | (at_builtin; refine wpList_append_slE EB rfl (.tmp 51) (.tmp 65) rfl w.heap.size _ _ L (encU x) rfl rfl HOA.out HSL.out HSZ.out HBS.out ?_; intro v3 w3 a1 a2; have hb3 := HBA.out.trans (below_ownE HOA.out a2 (Nat.le_refl _) HBS.out); obtain ⟨g9, k9, hv⟩ := own_at (n := k4 + 3) a1 HLE.out (by omega); subst hv; have HO3 := hidp a1; have HB3 := hidp hb3; clear hb3 a1 a2))
            go_ret2
            exact ⟨by rw [HF.out]; rfl, HB3.out⟩
          · have HF : Hid (textU m [] = textU (m.drop (i + 1)) (L ++ encU x)) := by show _ = _; rw [HR.out]; exact textU_go hok (by rw [HLE.out]; exact h60)
            have hk5 : k4 + 3 ≤ 60 := by omega
            have hnz : ¬ (60 : Int) < ((k4 + 3 : Nat) : Int) := by omega
            clear hok h60
            go_wp2_with (first | (go_at_call 25; refine (in8_any _ _ _ _).mono ?_; rintro e w2 ⟨rfl, rfl⟩) | (at_builtin; refine wpList_append_slE EB rfl (.tmp 51) (.tmp 65) rfl w.heap.size _ _ L (encU x) rfl rfl HOA.out HSL.out HSZ.out HBS.out ?_; intro v3 w3 a1 a2; have hb3 := HBA.out.trans (below_ownE HOA.out a2 (Nat.le_refl _) HBS.out); obtain ⟨g9, k9, hv⟩ := own_at (n := k4 + 3) a1 HLE.out (by omega); subst hv; have HO3 := hidp a1; have HB3 := hidp hb3; clear hb3 a1 a2))
            go_roundg (gk - 1)
            case measure => omega
            case rel => exact ⟨i + 1, L ++ encU x, _, k4 + 3, k9, rfl, by go_num, by omega, hk5, (show Hid _ from HLE.out.symm), HF, HO3, HB3⟩
        · have hok : okZ x = true := ok_in (by omega)
          have d0 : btw x (-256) (-129) = false := btw_f (by omega)
          have d1 : btw x 0 127 = false := btw_f (by omega)
          have d2 : btw x 128 2047 = false := btw_f (by omega)
          have d3 : btw x 2048 55295 = false := btw_f (by omega)
          have d4 : btw x 57344 65535 = true := btw_t (by omega)
          have x0 : 0 ≤ x := by omega
          have td4096 : Int.tdiv x 4096 = x / 4096 := tdiv_eq x0
          have wd4096 : wrap64 (x / 4096) = x / 4096 := by unfold wrap64; omega
          have td64 : Int.tdiv x 64 = x / 64 := tdiv_eq x0
          have wd64 : wrap64 (x / 64) = x / 64 := by unfold wrap64; omega
          have tm64 : Int.tmod (x / 64) 64 = x / 64 % 64 := tmod_eq (by omega)
          have wm64 : wrap64 (x / 64 % 64) = x / 64 % 64 := by unfold wrap64; omega
          have tm : Int.tmod x 64 = x % 64 := tmod_eq x0
          have wm : wrap64 (x % 64) = x % 64 := by unfold wrap64; omega
          have wv0 : wrap64 (224 + x / 4096) = 224 + x / 4096 := by unfold wrap64; omega
          have wu0 : IntKind.u8.wrap (224 + x / 4096) = 224 + x / 4096 := by rw [IntKind.wrap_u8]; omega
          have wv1 : wrap64 (128 + x / 64 % 64) = 128 + x / 64 % 64 := by unfold wrap64; omega
          have wu1 : IntKind.u8.wrap (128 + x / 64 % 64) = 128 + x / 64 % 64 := by rw [IntKind.wrap_u8]; omega
          have wv2 : wrap64 (128 + x % 64) = 128 + x % 64 := by unfold wrap64; omega
          have wu2 : IntKind.u8.wrap (128 + x % 64) = 128 + x % 64 := by rw [IntKind.wrap_u8]; omega
          obtain ⟨hsl, hln⟩ := new_num wr x 5 [224 + x / 4096, 128 + x / 64 % 64, 128 + x % 64] 3 (z_three (Or.inr h)) rfl
          have HSL : Hid (SlE EB (wr.alloc (.cells #[.int .u8 (224 + x / 4096), .int .u8 (128 + x / 64 % 64), .int .u8 (128 + x % 64)] 5)) (.slice (some ⟨wr.heap.size, 0, none⟩) 3 3) (encU x)) := hsl
          have HOA := hidp (HO.out.alloc (.cells #[.int .u8 (224 + x / 4096), .int .u8 (128 + x / 64 % 64), .int .u8 (128 + x % 64)] 5))
          have HBS : Hid (w.heap.size ≤ (wr.alloc (.cells #[.int .u8 (224 + x / 4096), .int .u8 (128 + x / 64 % 64), .int .u8 (128 + x % 64)] 5)).heap.size) := by show _ ≤ _; have := HBW.out.size; simp; omega
          have HBA : Hid (Below w.heap.size w (wr.alloc (.cells #[.int .u8 (224 + x / 4096), .int .u8 (128 + x / 64 % 64), .int .u8 (128 + x % 64)] 5))) := HBW.out.alloc HBW.out.size _
          have HSZ : Hid (L.length + (encU x).length ≤ 1000000) := by show _ ≤ _; rw [← HK.out, hln]; omega
          have HLE : Hid ((L ++ encU x).length = k4 + 3) := by show _ = _; rw [List.length_append, ← HK.out, hln]
          clear hsl hln h
          by_cases h60 : 60 < k4 + 3
          · have HF : Hid (textU m [] = (4, [])) := by show _ = _; rw [HR.out]; exact textU_full hok (by rw [HLE.out]; exact h60)
            have hnz : (60 : Int) < ((k4 + 3 : Nat) : Int) := by omega
            clear hok h60
            go_wp2_with (first | (go_at_call 25; refine (in8_any _ _ _ _).mono ?_; rintro e w2 ⟨rfl, rfl⟩) | (at_builtin; refine wpList_append_slE EB rfl (.tmp 51) (.tmp 65) rfl w.heap.size _ _ L (encU x) rfl rfl HOA.out HSL.out HSZ.out HBS.out ?_; intro v3 w3 a1 a2; have hb3 := HBA.out.trans (below_ownE HOA.out a2 (Nat.le_refl _) HBS.out); obtain ⟨g9, k9, hv⟩ := own_at (n := k4 + 3) a1 HLE.out (by omega); subst hv; have HO3 := hidp a1; have HB3 := hidp hb3; clear hb3 a1 a2))
            go_ret2
            exact ⟨by rw [HF.out]; rfl, HB3.out⟩
          · have HF : Hid (textU m [] = textU (m.drop (i + 1)) (L ++ encU x)) := by show _ = _; rw [HR.out]; exact textU_go hok (by rw [HLE.out]; exact h60)
            have hk5 : k4 + 3 ≤ 60 := by omega
            have hnz : ¬ (60 : Int) < ((k4 + 3 : Nat) : Int) := by omega
            clear hok h60
            go_wp2_with (first | (go_at_call 25; refine (in8_any _ _ _ _).mono ?_; rintro e w2 ⟨rfl, rfl⟩) | (at_builtin; refine wpList_append_slE EB rfl (.tmp 51) (.tmp 65) rfl w.heap.size _ _ L (encU x) rfl rfl HOA.out HSL.out HSZ.out HBS.out ?_; intro v3 w3 a1 a2; have hb3 := HBA.out.trans (below_ownE HOA.out a2 (Nat.le_refl _) HBS.out); obtain ⟨g9, k9, hv⟩ := own_at (n := k4 + 3) a1 HLE.out (by omega); subst hv; have HO3 := hidp a1; have HB3 := hidp hb3; clear hb3 a1 a2))
            go_roundg (gk - 1)
            case measure => omega
            case rel => exact ⟨i + 1, L ++ encU x, _, k4 + 3, k9, rfl, by go_num, by omega, hk5, (show Hid _ from HLE.out.symm), HF, HO3, HB3⟩
        · have hok : okZ x = true := ok_in (by omega)
          have d0 : btw x (-256) (-129) = false := btw_f (by omega)
          have d1 : btw x 0 127 = false := btw_f (by omega)
          have d2 : btw x 128 2047 = false := btw_f (by omega)
          have d3 : btw x 2048 55295 = false := btw_f (by omega)
          have d4 : btw x 57344 65535 = false := btw_f (by omega)
          have d5 : btw x 65536 1114111 = true := btw_t (by omega)
          have x0 : 0 ≤ x := by omega
          have td262144 : Int.tdiv x 262144 = x / 262144 := tdiv_eq x0
          have wd262144 : wrap64 (x / 262144) = x / 262144 := by unfold wrap64; omega
          have td4096 : Int.tdiv x 4096 = x / 4096 := tdiv_eq x0
          have wd4096 : wrap64 (x / 4096) = x / 4096 := by unfold wrap64; omega
          have tm4096 : Int.tmod (x / 4096) 64 = x / 4096 % 64 := tmod_eq (by omega)
          have wm4096 : wrap64 (x / 4096 % 64) = x / 4096 % 64 := by unfold wrap64; omega
          have td64 : Int.tdiv x 64 = x / 64 := tdiv_eq x0
          have wd64 : wrap64 (x / 64) = x / 64 := by unfold wrap64; omega
          have tm64 : Int.tmod (x / 64) 64 = x / 64 % 64 := tmod_eq (by omega)
          have wm64 : wrap64 (x / 64 % 64) = x / 64 % 64 := by unfold wrap64; omega
          have tm : Int.tmod x 64 = x % 64 := tmod_eq x0
          have wm : wrap64 (x % 64) = x % 64 := by unfold wrap64; omega
          have wv0 : wrap64 (240 + x / 262144) = 240 + x / 262144 := by unfold wrap64; omega
          have wu0 : IntKind.u8.wrap (240 + x / 262144) = 240 + x / 262144 := by rw [IntKind.wrap_u8]; omega
          have wv1 : wrap64 (128 + x / 4096 % 64) = 128 + x / 4096 % 64 := by unfold wrap64; omega
          have wu1 : IntKind.u8.wrap (128 + x / 4096 % 64) = 128 + x / 4096 % 64 := by rw [IntKind.wrap_u8]; omega
          have wv2 : wrap64 (128 + x / 64 % 64) = 128 + x / 64 % 64 := by unfold wrap64; omega
          have wu2 : IntKind.u8.wrap (128 + x / 64 % 64) = 128 + x / 64 % 64 := by rw [IntKind.wrap_u8]; omega
          have wv3 : wrap64 (128 + x % 64) = 128 + x % 64 := by unfold wrap64; omega
          have wu3 : IntKind.u8.wrap (128 + x % 64) = 128 + x % 64 := by rw [IntKind.wrap_u8]; omega
          obtain ⟨hsl, hln⟩ := new_num wr x 5 [240 + x / 262144, 128 + x / 4096 % 64, 128 + x / 64 % 64, 128 + x % 64] 4 (z_four h.1 h.2) rfl
          have HSL : Hid (SlE EB (wr.alloc (.cells #[.int .u8 (240 + x / 262144), .int .u8 (128 + x / 4096 % 64), .int .u8 (128 + x / 64 % 64), .int .u8 (128 + x % 64)] 5)) (.slice (some ⟨wr.heap.size, 0, none⟩) 4 4) (encU x)) := hsl
          have HOA := hidp (HO.out.alloc (.cells #[.int .u8 (240 + x / 262144), .int .u8 (128 + x / 4096 % 64), .int .u8 (128 + x / 64 % 64), .int .u8 (128 + x % 64)] 5))
          have HBS : Hid (w.heap.size ≤ (wr.alloc (.cells #[.int .u8 (240 + x / 262144), .int .u8 (128 + x / 4096 % 64), .int .u8 (128 + x / 64 % 64), .int .u8 (128 + x % 64)] 5)).heap.size) := by show _ ≤ _; have := HBW.out.size; simp; omega
          have HBA : Hid (Below w.heap.size w (wr.alloc (.cells #[.int .u8 (240 + x / 262144), .int .u8 (128 + x / 4096 % 64), .int .u8 (128 + x / 64 % 64), .int .u8 (128 + x % 64)] 5))) := HBW.out.alloc HBW.out.size _
          have HSZ : Hid (L.length + (encU x).length ≤ 1000000) := by show _ ≤ _; rw [← HK.out, hln]; omega
          have HLE : Hid ((L ++ encU x).length = k4 + 4) := by show _ = _; rw [List.length_append, ← HK.out, hln]
          clear hsl hln h
          by_cases h60 : 60 < k4 + 4
          · have HF : Hid (textU m [] = (4, [])) := by show _ = _; rw [HR.out]; exact textU_full hok (by rw [HLE.out]; exact h60)
            have hnz : (60 : Int) < ((k4 + 4 : Nat) : Int) := by omega
            clear hok h60
            go_wp2_with (first | (go_at_call 25; refine (in8_any _ _ _ _).mono ?_; rintro e w2 ⟨rfl, rfl⟩) | (at_builtin; refine wpList_append_slE EB rfl (.tmp 69) (.tmp 88) rfl w.heap.size _ _ L (encU x) rfl rfl HOA.out HSL.out HSZ.out HBS.out ?_; intro v3 w3 a1 a2; have hb3 := HBA.out.trans (below_ownE HOA.out a2 (Nat.le_refl _) HBS.out); obtain ⟨g9, k9, hv⟩ := own_at (n := k4 + 4) a1 HLE.out (by omega); subst hv; have HO3 := hidp a1; have HB3 := hidp hb3; clear hb3 a1 a2))
            go_ret2
            exact ⟨by rw [HF.out]; rfl, HB3.out⟩
          · have HF : Hid (textU m [] = textU (m.drop (i + 1)) (L ++ encU x)) := by show _ = _; rw [HR.out]; exact textU_go hok (by rw [HLE.out]; exact h60)
            have hk5 : k4 + 4 ≤ 60 := by omega
            have hnz : ¬ (60 : Int) < ((k4 + 4 : Nat) : Int) := by omega
            clear hok h60
            go_wp2_with (first | (go_at_call 25; refine (in8_any _ _ _ _).mono ?_; rintro e w2 ⟨rfl, rfl⟩) | (at_builtin; refine wpList_append_slE EB rfl (.tmp 69) (.tmp 88) rfl w.heap.size _ _ L (encU x) rfl rfl HOA.out HSL.out HSZ.out HBS.out ?_; intro v3 w3 a1 a2; have hb3 := HBA.out.trans (below_ownE HOA.out a2 (Nat.le_refl _) HBS.out); obtain ⟨g9, k9, hv⟩ := own_at (n := k4 + 4) a1 HLE.out (by omega); subst hv; have HO3 := hidp a1; have HB3 := hidp hb3; clear hb3 a1 a2))
            go_roundg (gk - 1)
            case measure => omega
            case rel => exact ⟨i + 1, L ++ encU x, _, k4 + 4, k9, rfl, by go_num, by omega, hk5, (show Hid _ from HLE.out.symm), HF, HO3, HB3⟩
      · have hok : okZ x = false := ok_out hall
        have d0 : btw x (-256) (-129) = false := btw_f (by omega)
        have d1 : btw x 0 127 = false := btw_f (by omega)
        have d2 : btw x 128 2047 = false := btw_f (by omega)
        have d3 : btw x 2048 55295 = false := btw_f (by omega)
        have d4 : btw x 57344 65535 = false := btw_f (by omega)
        have d5 : btw x 65536 1114111 = false := btw_f (by omega)
        have HF : Hid (textU m [] = (1, [])) := by show _ = _; rw [HR.out]; exact textU_bad hok
        clear hok hall
        go_wp2_with (go_at_call 25; refine (in8_any _ _ _ _).mono ?_; rintro e w2 ⟨rfl, rfl⟩)
        go_ret2
        exact ⟨by rw [HF.out]; rfl, HBW.out⟩
    · have hlz : ¬ (i : Int) < (k : Int) := by omega
      have hF := HR.out
      rw [List.drop_of_length_le (by have := HN.out; omega)] at hF
      have HF := hidp hF
      have hc := conv_own2 HO.out HK.out
      clear hF hlt
      go_wp2
      go_ret2
      exact ⟨by rw [HF.out]; rfl, HBW.out⟩
#print axioms refText_any
end Go.Proofs.YtlaeaeciomkabaaDoor
