/-
  Package code: begins; Encode; Decode.
-/
import Derived.Test.YtlaeaeciomkababDoorCoMk
import Derived.Test.YtlaeaeciomkababDoorSameZ
namespace Go.Proofs.YtlaeaeciomkababDoor
open Go.RowKit Go.Sort Go.Proofs

theorem make_none {w : World} {p : Option Addr} {cap : Nat} (h : SlE EZ w (.slice p 0 cap) []) :
    Calls Tryd.prog 27 #[.slice p 0 cap] w fun e w' => ∃ g, e = .returned (.tuple #[.slice (some ⟨g, 0, none⟩) 0 0, .nilIface]) ∧ Below w.heap.size w w' := by
  have C := kcheck_any _ [] w h (by simp)
  rw [errC_nil (by decide)] at C
  have HC := hidp C
  clear C h
  obtain ⟨i0, hi, hz0, hz1, hz2'⟩ := ES.infoE
  go_enter Tryd.func27, Tryd.ntmps27
  go_wp2_with (first | (go_at_call 45; refine HC.out.mono ?_; rintro e w' ⟨rfl, rfl⟩) | (at_make; refine wpList_make_full _ rfl (.tmp 16) (.tmp 16) 56 rfl w'.heap.size 9 i0 (.string ⟨#[]⟩) 1 Tryd.underlying56 hi hz0 hz1 .i64 .i64 _ _ 0 rfl rfl rfl rfl (by simp) (by unfold maxLen; omega) (Nat.le_refl _) ?_; intro w1 ho1 hg1; have hb1 : Below w'.heap.size w' w1 := (Below.refl _ _).grown hg1 (Nat.le_refl _) (fun k e => by cases e); have HB1 := hidp hb1; clear ho1 hg1 hb1))
  go_loopg [6, 7] 20 (fun g v6 v7 wr => ∃ (m : Nat), v6 = .int .i64 0 ∧ v7 = .int .i64 m ∧ m + g = 21 ∧ wr = w1)
  case atStart => exact ⟨1, rfl, rfl, by omega, rfl⟩
  case round =>
    obtain ⟨m, rfl, rfl, hmg, rfl⟩ := hrel
    by_cases hm : m ≤ 20
    · have hmz : (m : Int) ≤ 20 := by omega
      go_wp2
      refine wp_loop_rounds 1 ?_
      rw [rounds_succ]
      go_wp2
      go_roundg (20 - m)
      case measure => omega
      case rel => exact ⟨m + 1, by go_num, by go_num, by omega, rfl⟩
    · have hmz : ¬ (m : Int) ≤ 20 := by omega
      go_wp2
      go_ret2
      exact ⟨⟨_, rfl⟩, HB1.out⟩
theorem make_ok {w : World} {v : Value} {l : List Int} (h : SlE EZ w v l) (h0 : wrongK l = 0) (hT : Tz w) :
    Calls Tryd.prog 27 #[v] w fun e w' => ∃ g, e = .returned (.tuple #[.slice (some ⟨g, 0, none⟩) l.length l.length, .nilIface]) ∧ SlE ES w' (.slice (some ⟨g, 0, none⟩) l.length l.length) (codesI l) ∧ Below w.heap.size w w' := by
  by_cases hn : l.length = 0
  · obtain rfl := List.eq_nil_of_length_eq_zero hn
    obtain ⟨p, cap, rfl, _⟩ := id h
    exact (make_none h).mono fun e w' ⟨g, h1, h2⟩ => ⟨g, h1, SlE.empty w' _ 0, h2⟩
  · exact make_some h h0 hT hn
theorem RdE.strB {w : World} {blk off i : Nat} {xs : List (List UInt8)} (h : RdE ES w blk off xs) {s : List UInt8} (hx : xs[i]? = some s) : ∃ S : ByteArray, S.data.toList = s ∧ w.cell? ⟨blk, off + i, none⟩ = some (.string S) := ⟨⟨s.toArray⟩, by simp, h.str hx⟩
theorem emptyB (S : ByteArray) : S.toList.isEmpty = decide (S.data.toList = []) := by
  rw [Lib.toList_data]
  cases S.data.toList <;> rfl
/-- Whether a code begins a text. -/
def testB (t c : List UInt8) : Bool := decide (c ≠ []) && c.isPrefixOf t
theorem begins_is_none {cs : List (List UInt8)} {t : List UInt8} (h : ∀ (j : Nat) (c : List UInt8), cs[j]? = some c → testB t c = false) : beginsB cs t = none := by
  unfold beginsB
  rw [List.findIdx?_eq_none_iff]
  intro c hc
  obtain ⟨j, hj⟩ := List.getElem?_of_mem hc
  exact h j c hj
theorem begins_is_some {cs : List (List UInt8)} {t : List UInt8} {i : Nat} {c : List UInt8} (hi : cs[i]? = some c) (hc : testB t c = true) (h : ∀ (j : Nat) (c : List UInt8), j < i → cs[j]? = some c → testB t c = false) : beginsB cs t = some i := by
  unfold beginsB
  rw [List.findIdx?_eq_some_iff_getElem]
  obtain ⟨hl, e⟩ := List.getElem?_eq_some_iff.1 hi
  refine ⟨hl, by rw [e]; exact hc, fun j hj => ?_⟩
  rw [Bool.not_eq_true]
  exact h j _ hj (List.getElem?_eq_getElem (by omega))
set_option maxHeartbeats 4000000 in
theorem begins_any {w : World} {v : Value} {cs : List (List UInt8)} {T : ByteArray} (h : SlE ES w v cs) (hbig : cs.length ≤ 1000) :
    Calls Tryd.prog 28 #[v, .string T] w fun e w' => e = .returned (.tuple #[.int .i64 (((beginsB cs T.data.toList).getD 0 : Nat) : Int), .bool (beginsB cs T.data.toList).isSome]) ∧ w' = w := by
  obtain ⟨p, cap, rfl, _⟩ := id h
  obtain ⟨n, hn⟩ : ∃ n, cs.length = n := ⟨_, rfl⟩
  rw [hn] at h hbig ⊢
  have HL := hidp h
  have HN := hidp hn
  clear h hn
  go_enter Tryd.func28, Tryd.ntmps28
  go_wp2
  go_loopg [10] n (fun g vi wr => ∃ i : Nat, vi = .int .i64 i ∧ i + g = n ∧ w = wr ∧ Hid (∀ (j : Nat) (c : List UInt8), j < i → cs[j]? = some c → testB T.data.toList c = false))
  case atStart => exact ⟨0, rfl, by omega, rfl, (show Hid _ from fun j c hj => by omega)⟩
  case round =>
    obtain ⟨i, rfl, hg, hw, HO⟩ := hrel
    subst hw
    by_cases hlt : i < n
    · have hlz : (i : Int) < (n : Int) := by omega
      obtain ⟨c, hc⟩ : ∃ c, cs[i]? = some c := ⟨_, List.getElem?_eq_getElem (by have := HN.out; omega)⟩
      obtain ⟨b1, o1, rfl, _, _, hr1⟩ := HL.out.some (by omega)
      obtain ⟨S, hS, c0⟩ := hr1.strB hc
      have HS := hidp hS
      have HC := hidp hc
      have more : testB T.data.toList c = false → Hid (∀ (j : Nat) (y : List UInt8), j < i + 1 → cs[j]? = some y → testB T.data.toList y = false) := fun e j y hj hy => by
        rcases Nat.lt_or_ge j i with z | z
        · exact HO.out j y z hy
        · obtain rfl : j = i := by omega
          rw [HC.out] at hy; cases hy; exact e
      have MORE := hidp more
      clear hc hr1 more hS
      by_cases he : c = []
      · have hE : S.toList.isEmpty = true := by rw [emptyB, HS.out, he]; rfl
        have HM := MORE.out (by unfold testB; rw [he]; rfl)
        clear he
        go_wp2
        go_roundg (n - (i + 1))
        case measure => omega
        case rel => exact ⟨i + 1, by go_num, by omega, rfl, HM⟩
      · have hE : S.toList.isEmpty = false := by rw [emptyB, HS.out, decide_eq_false he]
        have CP := hidp fun W => Tryd.strings_HasPrefix T S W
        by_cases hp : Lib.hasPrefix T.data.toList S.data.toList = true
        · have HT : Hid (testB T.data.toList c = true) := by
            show _ = _
            unfold testB
            rw [decide_eq_true he, ← HS.out]
            exact hp
          have HF : Hid (beginsB cs T.data.toList = some i) := begins_is_some HC.out HT.out HO.out
          rw [hp] at CP
          clear hp he
          go_wp2_with (go_at_call 47; refine (CP.out _).mono ?_; rintro e w' ⟨rfl, rfl⟩)
          go_ret2
          exact ⟨by rw [HF.out]; rfl, rfl⟩
        · have hpf : Lib.hasPrefix T.data.toList S.data.toList = false := by rw [Bool.not_eq_true] at hp; exact hp
          have HM := MORE.out (by unfold testB; rw [← HS.out]; rw [show S.data.toList.isPrefixOf T.data.toList = false from hpf, Bool.and_false])
          rw [hpf] at CP
          clear hp hpf he
          go_wp2_with (go_at_call 47; refine (CP.out _).mono ?_; rintro e w' ⟨rfl, rfl⟩)
          go_roundg (n - (i + 1))
          case measure => omega
          case rel => exact ⟨i + 1, by go_num, by omega, rfl, HM⟩
    · have hlz : ¬ (i : Int) < (n : Int) := by omega
      have HF : Hid (beginsB cs T.data.toList = none) := begins_is_none fun j c hj => HO.out j c (by have := HN.out; have := (List.getElem?_eq_some_iff.1 hj).1; omega) hj
      go_wp2
      go_ret2
      exact ⟨by rw [HF.out]; rfl, rfl⟩
#print axioms begins_any
theorem codesI_get {l : List Int} {i : Nat} (h : i < l.length) : (codesI l)[i]? = some (codeB (natL l) i) := codesB_get (by rw [natL_len']; exact h)
theorem codesI_le {l : List Int} (h0 : wrongK l = 0) {i : Nat} {c : List UInt8} (h : (codesI l)[i]? = some c) : c.length ≤ 20 := by
  obtain ⟨_, hr, _⟩ := wrongK_zero h0
  have hi : i < l.length := by have := (List.getElem?_eq_some_iff.1 h).1; rwa [codesI_len] at this
  rw [codesI_get hi] at h
  cases h
  rw [codeB_len, List.getD_eq_getElem?_getD]
  unfold natL
  rw [List.getElem?_map, List.getElem?_eq_getElem hi]
  have := hr _ (List.getElem_mem hi)
  simp
  omega
theorem codesI_free {l : List Int} (h0 : wrongK l = 0) : Free (codesI l) := by
  obtain ⟨_, hr, ht⟩ := wrongK_zero h0
  refine codesB_free (M := 20) ht fun n hn => ?_
  obtain ⟨x, hx, rfl⟩ := List.mem_map.1 hn
  have := hr x hx; omega
set_option maxHeartbeats 4000000 in
theorem encode_bad {w : World} {v u : Value} {l : List Int} (h : SlE EZ w v l) (hbig : l.length ≤ 9223372036854775807) (h0 : wrongK l ≠ 0) :
    Calls Tryd.prog 12 #[v, u] w fun e w' => e = .returned (.tuple #[.string ⟨#[]⟩, .iface 48 (.int .i64 (wrongK l : Nat))]) ∧ w' = w := by
  have HC := hidp (make_bad h hbig h0)
  clear h hbig h0
  go_enter Tryd.func12, Tryd.ntmps12
  go_wp2_with (go_at_call 27; refine HC.out.mono ?_; rintro e w' ⟨rfl, rfl⟩)
  go_ret2
  exact ⟨rfl, rfl⟩
theorem encB_neg {cs : List (List UInt8)} {s : Int} {t : List Int} {acc : List UInt8} (h : s < 0 ∨ (cs.length : Int) ≤ s) : encB cs (s :: t) acc = (1, []) := by rw [encB, if_pos h]
theorem encB_none {cs : List (List UInt8)} {s : Int} {t : List Int} {acc : List UInt8} (h : ¬ (s < 0 ∨ (cs.length : Int) ≤ s)) (h2 : cs.getD s.toNat [] = []) : encB cs (s :: t) acc = (5, []) := by rw [encB, if_neg h, if_pos h2]
theorem encB_full {cs : List (List UInt8)} {s : Int} {t : List Int} {acc : List UInt8} (h : ¬ (s < 0 ∨ (cs.length : Int) ≤ s)) (h2 : ¬ cs.getD s.toNat [] = []) (h3 : 400 < (acc ++ cs.getD s.toNat []).length) : encB cs (s :: t) acc = (4, []) := by rw [encB, if_neg h, if_neg h2, if_pos h3]
theorem encB_go {cs : List (List UInt8)} {s : Int} {t : List Int} {acc : List UInt8} (h : ¬ (s < 0 ∨ (cs.length : Int) ≤ s)) (h2 : ¬ cs.getD s.toNat [] = []) (h3 : ¬ 400 < (acc ++ cs.getD s.toNat []).length) : encB cs (s :: t) acc = encB cs t (acc ++ cs.getD s.toNat []) := by rw [encB, if_neg h, if_neg h2, if_neg h3]
set_option maxHeartbeats 16000000 in
set_option maxRecDepth 20000 in
theorem encode_ok {w : World} {v u : Value} {l m : List Int} (h : SlE EZ w v l) (hu : SlE EZ w u m) (hbig : m.length ≤ 9223372036854775807) (h0 : wrongK l = 0) (hT : Tz w) :
    Calls Tryd.prog 12 #[v, u] w fun e w' => e = .returned (.tuple #[sV (encB (codesI l) m []).2, errV (encB (codesI l) m []).1]) ∧ Below w.heap.size w w' := by
  obtain ⟨p, cap, rfl, _⟩ := id h
  obtain ⟨p2, cap2, rfl, _⟩ := id hu
  obtain ⟨n, hn⟩ : ∃ n, l.length = n := ⟨_, rfl⟩
  obtain ⟨k, hk⟩ : ∃ k, m.length = k := ⟨_, rfl⟩
  have HC := hidp (make_ok h h0 hT)
  rw [hn] at HC ⊢
  rw [hk] at hu hbig ⊢
  have hn40 : n ≤ 40 := by have := (wrongK_zero h0).1; omega
  have hcl : (codesI l).length = n := by rw [codesI_len, hn]
  have H20 := hidp (fun (i : Nat) (c : List UInt8) (e : (codesI l)[i]? = some c) => codesI_le h0 e)
  obtain ⟨cs, hcs⟩ : ∃ cs, codesI l = cs := ⟨_, rfl⟩
  rw [hcs] at HC hcl H20
  rw [hcs]
  have HU := hidp hu
  have HN := hidp hk
  have HCL := hidp hcl
  clear h hu hn hk h0 hT hcs hcl
  go_enter Tryd.func12, Tryd.ntmps12
  go_wp2_with (go_at_call 27; refine HC.out.mono ?_; rintro e w1 ⟨g, rfl, hs, hb⟩; have HS := hidp hs; have HB := hidp hb; have HU1 := hidp (HU.out.below hb); clear hs hb)
  go_loopg [8, 21] k (fun gh v8 vi wr => ∃ (i a : Nat) (T : ByteArray), v8 = .string T ∧ vi = .int .i64 i ∧ i + gh = k ∧ T.size = a ∧ a ≤ 400 ∧ w1 = wr ∧ Hid (encB cs m [] = encB cs (m.drop i) T.data.toList))
  case atStart => exact ⟨0, 0, ⟨#[]⟩, rfl, rfl, by omega, rfl, by omega, rfl, (show Hid _ from rfl)⟩
  case round =>
    obtain ⟨i, a, T, rfl, rfl, hg, hTa, ha, hw, HR⟩ := hrel
    subst hw
    by_cases hlt : i < k
    · have hlz : (i : Int) < (k : Int) := by omega
      obtain ⟨x, hx⟩ : ∃ x, m[i]? = some x := ⟨_, List.getElem?_eq_getElem (by have := HN.out; omega)⟩
      have hdr : m.drop i = x :: m.drop (i + 1) := by
        obtain ⟨h1, h2⟩ := List.getElem?_eq_some_iff.1 hx
        rw [← h2, List.getElem_cons_drop]
      rw [hdr] at HR
      obtain ⟨b1, o1, rfl, _, _, hr1⟩ := HU1.out.some (by omega)
      have c0 := hr1.int hx
      clear hx hr1 hdr
      by_cases hneg : x < 0
      · have hnz : decide (x < 0) = true := decide_eq_true hneg
        have HF := hidp (HR.out.trans (encB_neg (Or.inl hneg)))
        go_wp2
        go_ret2
        exact ⟨by rw [HF.out]; rfl, HB.out⟩
      · have hnz : decide (x < 0) = false := decide_eq_false hneg
        by_cases hge : (n : Int) ≤ x
        · have hgz : decide ((n : Int) ≤ x) = true := decide_eq_true hge
          have HF := hidp (HR.out.trans (encB_neg (Or.inr (by rw [HCL.out]; exact hge))))
          go_wp2
          go_ret2
          exact ⟨by rw [HF.out]; rfl, HB.out⟩
        · have hgz : decide ((n : Int) ≤ x) = false := decide_eq_false hge
          obtain ⟨y, rfl⟩ : ∃ y : Nat, x = y := ⟨x.toNat, by omega⟩
          have hyn : y < n := by omega
          have hrg : ¬ ((y : Int) < 0 ∨ (cs.length : Int) ≤ (y : Int)) := by rw [HCL.out]; omega
          obtain ⟨c, hc⟩ : ∃ c, cs[y]? = some c := ⟨_, List.getElem?_eq_getElem (by have := HCL.out; omega)⟩
          have hcd : cs.getD (y : Int).toNat [] = c := by rw [Int.toNat_natCast, List.getD_eq_getElem?_getD, hc]; rfl
          obtain ⟨g1, o2, eg, _, _, hr2⟩ := HS.out.some (by omega)
          simp only [Option.some.injEq, Addr.mk.injEq] at eg
          obtain ⟨rfl, rfl, _⟩ := eg
          obtain ⟨S, hS, c1⟩ := hr2.strB hc
          rw [Nat.zero_add] at c1
          have hc20 := H20.out y c hc
          have hSs : S.size = c.length := by rw [Lib.size_eq, hS]
          obtain ⟨b, hb⟩ : ∃ b, c.length = b := ⟨_, rfl⟩
          have hTS : (T ++ S).data.toList = T.data.toList ++ c := by rw [← hS]; simp
          have hTl : T.data.toList.length = a := by rw [← Lib.size_eq, hTa]
          rw [hb] at hSs hc20
          have HRG := hidp hrg
          have HCD := hidp hcd
          have HTS := hidp hTS
          have HTL := hidp hTl
          have HB2 := hidp hb
          have HSD := hidp hS
          clear hc hr2 hrg hcd hTS hTl hb hS
          by_cases he : c = []
          · have hE : S.toList.isEmpty = true := by rw [emptyB, HSD.out, he]; rfl
            have HF := hidp (HR.out.trans (encB_none HRG.out (by rw [HCD.out, he])))
            clear he
            go_wp2
            go_ret2
            exact ⟨by rw [HF.out]; rfl, HB.out⟩
          · have hE : S.toList.isEmpty = false := by rw [emptyB, HSD.out, decide_eq_false he]
            have hLen : (T.data.toList ++ c).length = a + b := by rw [List.length_append, HTL.out, HB2.out]
            by_cases hf : 400 < a + b
            · have hfz : (400 : Int) < (a : Int) + (b : Int) := by omega
              have HF := hidp (HR.out.trans (encB_full HRG.out (by rw [HCD.out]; exact he) (by rw [HCD.out, hLen]; exact hf)))
              clear he hLen
              go_wp2
              go_ret2
              exact ⟨by rw [HF.out]; rfl, HB.out⟩
            · have hfz : ¬ (400 : Int) < (a : Int) + (b : Int) := by omega
              have HF := hidp (HR.out.trans (encB_go HRG.out (by rw [HCD.out]; exact he) (by rw [HCD.out, hLen]; exact hf)))
              rw [HCD.out, ← HTS.out] at HF
              have HSZ : Hid ((T ++ S).size = a + b) := by show _ = _; rw [ByteArray.size_append, hTa, hSs]
              clear he hLen
              go_wp2
              go_roundg (k - (i + 1))
              case measure => omega
              case rel => exact ⟨i + 1, a + b, T ++ S, rfl, by go_num, by omega, HSZ.out, by omega, rfl, HF⟩
    · have hlz : ¬ (i : Int) < (k : Int) := by omega
      have HF : Hid (encB cs m [] = (0, T.data.toList)) := by
        have := HR.out
        rw [List.drop_of_length_le (by have := HN.out; omega)] at this
        exact this
      go_wp2
      go_ret2
      exact ⟨by rw [HF.out]; rfl, HB.out⟩
#print axioms encode_ok
end Go.Proofs.YtlaeaeciomkababDoor
