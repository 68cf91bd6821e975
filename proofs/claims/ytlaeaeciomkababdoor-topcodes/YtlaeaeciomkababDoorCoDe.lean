/-
  Package code: Decode.
-/
import Derived.Test.YtlaeaeciomkababDoorCoEn
import Derived.Test.YtlaeaeciomkababDoorAppE
namespace Go.Proofs.YtlaeaeciomkababDoor
open Go.RowKit Go.Sort Go.Proofs

set_option maxHeartbeats 4000000 in
theorem decode_bad {w : World} {v : Value} {l : List Int} {T : ByteArray} (h : SlE EZ w v l) (hbig : l.length ≤ 9223372036854775807) (h0 : wrongK l ≠ 0) :
    Calls Tryd.prog 13 #[v, .string T] w fun e w' => e = .returned (.tuple #[.slice none 0 0, .iface 48 (.int .i64 (wrongK l : Nat))]) ∧ w' = w := by
  have HC := hidp (make_bad h hbig h0)
  clear h hbig h0
  go_enter Tryd.func13, Tryd.ntmps13
  go_wp2_with (go_at_call 27; refine HC.out.mono ?_; rintro e w' ⟨rfl, rfl⟩)
  go_ret2
  exact ⟨rfl, rfl⟩
set_option maxHeartbeats 4000000 in
theorem decode_long {w : World} {v : Value} {l : List Int} {T : ByteArray} (h : SlE EZ w v l) (h0 : wrongK l = 0) (hT : Tz w) (hl : 400 < T.size) :
    Calls Tryd.prog 13 #[v, .string T] w fun e w' => e = .returned (.tuple #[.slice none 0 0, .iface 48 (.int .i64 4)]) ∧ Below w.heap.size w w' := by
  have HC := hidp (make_ok h h0 hT)
  obtain ⟨a, ha⟩ : ∃ a, T.size = a := ⟨_, rfl⟩
  have hz : (400 : Int) < (a : Int) := by omega
  clear h h0 hT hl
  go_enter Tryd.func13, Tryd.ntmps13
  go_wp2_with (go_at_call 27; refine HC.out.mono ?_; rintro e w' ⟨g, rfl, hs, hb⟩)
  go_ret2
  exact ⟨rfl, hb⟩
theorem decS_none_of {cs : List (List UInt8)} {t : List UInt8} {acc : List Int} (h0 : t ≠ []) (h : beginsB cs t = none) : (decS cs t).map (acc ++ ·) = none := by rw [decS_stop h0 h]; rfl
theorem decS_more {cs : List (List UInt8)} {t : List UInt8} {i : Nat} {acc : List Int} (h0 : t ≠ []) (h : beginsB cs t = some i) : (decS cs t).map (acc ++ ·) = (decS cs (t.drop (cs.getD i []).length)).map ((acc ++ [(i : Int)]) ++ ·) := by
  rw [decS_step h0 h]
  cases decS cs (t.drop (cs.getD i []).length) <;> simp
theorem extract_tail {T : ByteArray} {b r : Nat} (h : T.size = r) : (T.extract b r).data.toList = T.data.toList.drop b := by
  have hl : T.data.toList.length = r := by rw [← Lib.size_eq, h]
  rw [Lib.extract_eq]
  show ((T.data.toList.drop b).take (r - b)).toArray.toList = _
  rw [List.take_of_length_le (by rw [List.length_drop]; omega)]
/-- What decoding gives back: the symbols, or what is wrong. -/
def DecR (e : Ending) (w' : World) (r : Option (List Int)) : Prop := match r with
  | none => e = .returned (.tuple #[.slice none 0 0, .iface 48 (.int .i64 2)])
  | some a => ∃ u, e = .returned (.tuple #[u, .nilIface]) ∧ SlE EZ w' u a
set_option maxHeartbeats 16000000 in
set_option maxRecDepth 20000 in
theorem decode_ok {w : World} {v : Value} {l : List Int} {T : ByteArray} (h : SlE EZ w v l) (h0 : wrongK l = 0) (hT : Tz w) (hl : T.size ≤ 400) :
    Calls Tryd.prog 13 #[v, .string T] w fun e w' => DecR e w' (decS (codesI l) T.data.toList) ∧ Below w.heap.size w w' := by
  obtain ⟨p, cap, rfl, _⟩ := id h
  obtain ⟨n, hn⟩ : ∃ n, l.length = n := ⟨_, rfl⟩
  have HC := hidp (make_ok h h0 hT)
  rw [hn] at HC ⊢
  have hn40 : n ≤ 40 := by have := (wrongK_zero h0).1; omega
  have hcl : (codesI l).length = n := by rw [codesI_len, hn]
  obtain ⟨cs, hcs⟩ : ∃ cs, codesI l = cs := ⟨_, rfl⟩
  rw [hcs] at HC hcl
  rw [hcs]
  obtain ⟨a, ha⟩ : ∃ a, T.size = a := ⟨_, rfl⟩
  have haz : ¬ (400 : Int) < (a : Int) := by omega
  have HCL := hidp hcl
  have ha4 : a ≤ 400 := by omega
  have HA := hidp ha
  obtain ⟨R, hR⟩ : ∃ R, decS cs T.data.toList = R := ⟨_, rfl⟩
  rw [hR]
  have HR0 : Hid (R = (decS cs T.data.toList).map (([] : List Int) ++ ·)) := by show _ = _; rw [hR]; cases R <;> rfl
  clear h hn h0 hT hcs hcl hl hR
  go_enter Tryd.func13, Tryd.ntmps13
  go_wp2_with (go_at_call 27; refine HC.out.mono ?_; rintro e w1 ⟨g, rfl, hs, hb⟩; have HS := hidp hs; have HB := hidp hb; clear hs hb)
  have HO1 : Hid (OwnE EZ (w1.alloc (.cells #[] 3)) w1.heap.size (.slice (some ⟨w1.heap.size, 0, none⟩) 0 0) []) := World.ownsRow_lit w1 #[] 0 (Nat.le_refl _) (by unfold maxLen; omega) (by simp)
  have HB1 : Hid (Below w1.heap.size w1 (w1.alloc (.cells #[] 3))) := (Below.refl _ _).alloc (Nat.le_refl _) _
  go_loopg [1, 8] a (fun gh v1 v8 wr => ∃ (T : ByteArray) (r : Nat) (acc : List Int) (p8 : Option Addr) (k8 c8 : Nat), v1 = .string T ∧ v8 = .slice p8 k8 c8 ∧ T.size = r ∧ r ≤ gh ∧ r + k8 ≤ 400 ∧ Hid (k8 = acc.length) ∧ Hid (R = (decS cs T.data.toList).map (acc ++ ·)) ∧ Hid (OwnE EZ wr w1.heap.size (.slice p8 k8 c8) acc) ∧ Hid (Below w1.heap.size w1 wr))
  case atStart => exact ⟨T, a, [], _, 0, 0, rfl, rfl, HA.out, Nat.le_refl _, by omega, (show Hid _ from rfl), HR0, HO1, HB1⟩
  case round =>
    obtain ⟨T, r, acc, p8, k8, c8, rfl, rfl, hTr, hr, hrk, HK, HR, HO, HBW⟩ := hrel
    by_cases h0 : r = 0
    · have hnil : T.data.toList = [] := List.eq_nil_of_length_eq_zero (by rw [← Lib.size_eq, hTr, h0])
      have hE : T.toList.isEmpty = true := by rw [emptyB, hnil]; rfl
      have HF : Hid (R = some acc) := by
        show _ = _
        rw [HR.out, hnil, decS_nil]
        simp
      clear hnil h0
      go_wp2
      go_ret2
      rw [HF.out]
      exact ⟨⟨_, rfl, HO.out.sl⟩, HB.out.trans (HBW.out.mono HB.out.size)⟩
    · have hne : T.data.toList ≠ [] := fun e => h0 (by rw [← hTr, Lib.size_eq, e]; rfl)
      have hE : T.toList.isEmpty = false := by rw [emptyB, decide_eq_false hne]
      have hs2 := HS.out.below (w' := wr) HBW.out
      have cb := begins_any (T := T) hs2 (by rw [HCL.out]; omega)
      cases hb : beginsB cs T.data.toList with
      | none =>
        rw [hb] at cb
        have CB : Hid (Calls Tryd.prog 28 #[.slice (some ⟨g, 0, none⟩) n n, .string T] wr fun e w' => e = .returned (.tuple #[.int .i64 0, .bool false]) ∧ w' = wr) := cb
        have HF : Hid (R = none) := by show _ = _; rw [HR.out, decS_none_of hne hb]
        clear cb hs2 hne hb
        go_wp2_with (go_at_call 28; refine CB.out.mono ?_; rintro e w2 ⟨rfl, hw⟩; rw [hw]; clear hw)
        go_ret2
        rw [HF.out]
        exact ⟨rfl, HB.out.trans (HBW.out.mono HB.out.size)⟩
      | some i =>
        rw [hb] at cb
        have CB : Hid (Calls Tryd.prog 28 #[.slice (some ⟨g, 0, none⟩) n n, .string T] wr fun e w' => e = .returned (.tuple #[.int .i64 i, .bool true]) ∧ w' = wr) := cb
        have hf := decS_more (acc := acc) hne hb
        obtain ⟨c, hc, hcn, hcp⟩ := beginsB_some hb
        have hcd : cs.getD i [] = c := by rw [List.getD_eq_getElem?_getD, hc]; rfl
        rw [hcd] at hf
        obtain ⟨b, hbl⟩ : ∃ b, c.length = b := ⟨_, rfl⟩
        rw [hbl] at hf
        have hin : i < n := by have := (List.getElem?_eq_some_iff.1 hc).1; rw [HCL.out] at this; exact this
        have hb1 : 1 ≤ b := by rw [← hbl]; exact List.length_pos_iff.2 hcn
        have hbr : b ≤ r := by rw [← hbl, ← hTr, Lib.size_eq]; exact hcp.length_le
        have HF := hidp (HR.out.trans hf)
        have HOA := hidp (HO.out.alloc (.cells #[.int .i64 i] 3))
        have HNEW := hidp (box_one wr (i : Int))
        have HSZ : Hid (acc.length ≤ 100000) := by show _ ≤ _; rw [← HK.out]; omega
        have HBS : Hid (w1.heap.size ≤ (wr.alloc (.cells #[.int .i64 i] 3)).heap.size) := by show _ ≤ _; have := HBW.out.size; simp; omega
        have HBA : Hid (Below w1.heap.size w1 (wr.alloc (.cells #[.int .i64 i] 3))) := HBW.out.alloc HBW.out.size _
        have HCC := hidp hc
        have HBL := hidp hbl
        have hiz : (0 : Int) ≤ (i : Int) := by omega
        have hinz : (i : Int) < (n : Int) := by omega
        clear cb hs2 hne hb hf hc hcn hcp hcd hbl
        go_wp2_with (first | (go_at_call 28; refine CB.out.mono ?_; rintro e w2 ⟨rfl, hw⟩; rw [hw]; clear hw) | (at_builtin; refine wpList_appendE EZ rfl (.tmp 35) (.tmp 37) rfl w1.heap.size _ acc (i : Int) ⟨wr.heap.size, 0, none⟩ 1 rfl HOA.out rfl HNEW.out HSZ.out HBS.out ?_; intro v2 w3 a1 a2 a3; have hb3 := HBA.out.trans (below_ownE HOA.out a2 (Nat.le_refl _) HBS.out); obtain ⟨p9, k9, hv⟩ := OwnE.form a1; rw [List.length_append, List.length_singleton, ← HK.out] at hv; subst hv; have HO3 := hidp a1; have HB3 := hidp hb3; obtain ⟨gg, oo, eg, _, _, hr3⟩ := (HS.out.below hb3).some (by omega); simp only [Option.some.injEq, Addr.mk.injEq] at eg; obtain ⟨rfl, rfl, -⟩ := eg; obtain ⟨S, hS, c1⟩ := hr3.strB HCC.out; rw [Nat.zero_add] at c1; have hSb : S.size = b := (by rw [Lib.size_eq, hS]; exact HBL.out); clear hS hr3 hb3 a1 a2 a3))
        go_roundg (gk - 1)
        case measure => omega
        case rel =>
          have hex : (T.extract b r).data.toList = T.data.toList.drop b := extract_tail hTr
          refine ⟨T.extract b r, r - b, acc ++ [(i : Int)], p9, k8 + 1, k9, rfl, rfl, ?_, by omega, by omega, (show Hid _ from by show _ = _; rw [List.length_append, ← HK.out]; rfl), (show Hid _ from by rw [hex]; exact HF.out), HO3, HB3⟩
          rw [Lib.size_eq, hex, List.length_drop, ← Lib.size_eq, hTr]
#print axioms decode_ok
end Go.Proofs.YtlaeaeciomkababDoor
