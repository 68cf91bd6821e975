/-
  The document's codes of lengths (Codes).
-/
import Derived.Test.YtlaeaeciomkabaaDoorRefK2
import Derived.Test.YtlaeaeciomkabaaDoorCoLast
import Derived.Test.YtlaeaeciomkabaaDoorElB
import Derived.Test.YtlaeaeciomkabaaDoorSameZ
namespace Go.Proofs.YtlaeaeciomkabaaDoor
open Go.RowKit Go.Sort Go.Proofs

theorem pads (S : ByteArray) {t : List UInt8} {d : Nat} (h : S.data.toList = t ++ List.replicate d 48) : (S ++ ⟨#[48]⟩).data.toList = t ++ List.replicate (d + 1) 48 := by
  rw [List.replicate_succ', ← List.append_assoc, ← h]; simp
set_option maxHeartbeats 16000000 in
set_option maxRecDepth 20000 in
theorem refCodes_some {w : World} {v : Value} {l : List Int} (h : SlE EZ w v l) (h0 : wrongK l = 0) (hne : l.length ≠ 0) :
    Calls Tryd.prog 10 #[v] w fun e w' => ∃ g, e = .returned (.slice (some ⟨g, 0, none⟩) l.length l.length) ∧ SlE ES w' (.slice (some ⟨g, 0, none⟩) l.length l.length) (codesI l) ∧ Below w.heap.size w w' := by
  obtain ⟨p, cap, rfl, _⟩ := id h
  obtain ⟨h40, hrng, htop⟩ := wrongK_zero h0
  obtain ⟨n, hn⟩ : ∃ n, l.length = n := ⟨_, rfl⟩
  rw [hn] at h h40 hne ⊢
  have hp20 : topC (natL l) 20 ≤ 2 ^ 20 := htop
  obtain ⟨ls, hls⟩ : ∃ ls, natL l = ls := ⟨_, rfl⟩
  have hall : ∀ a ∈ ls, a ≤ 20 := fun a ha => by
    rw [← hls] at ha
    obtain ⟨x, hx, rfl⟩ := List.mem_map.1 ha
    have := hrng x hx; omega
  have hget : ∀ (i : Nat) (x : Int), l[i]? = some x → ls[i]? = some x.toNat := fun i x hx => by
    rw [← hls]; unfold natL; rw [List.getElem?_map, hx]; rfl
  have hlen : ls.length = n := by rw [← hls, natL_len', hn]
  rw [hls] at hp20
  have HL := hidp h
  have HN := hidp hn
  have HRNG := hidp hrng
  have HTOP := hidp hp20
  have HGET := hidp hget
  have HALL := hidp hall
  have HLEN := hidp hlen
  have HLS := hidp hls
  obtain ⟨i0, hi, hz0, hz1, hz2'⟩ := ES.infoE
  clear h hn h0 hrng htop hp20 hget hall hlen hls
  have hnp : 0 < n := by omega
  obtain ⟨W0, hW0⟩ : ∃ W0, W0 = w := ⟨_, rfl⟩
  subst hW0
  go_enter Tryd.func10, Tryd.ntmps10
  go_wp2_with (first | (at_make; refine wpList_make_full _ rfl (.tmp 9) (.tmp 9) 24 rfl W0.heap.size 9 i0 (.string ⟨#[]⟩) 1 Tryd.underlying24 hi hz0 hz1 .i64 .i64 _ _ n rfl rfl rfl rfl (by rw [hz2']; show 16 * n ≤ _; omega) (by unfold maxLen; omega) (Nat.le_refl _) ?_; intro w1 ho1 hg1; have hb1 : Below W0.heap.size W0 w1 := (Below.refl _ _).grown hg1 (Nat.le_refl _) (fun k e => by cases e); obtain ⟨_, hw1⟩ := made_strs ho1 hnp; have HW1 := hidp hw1; have HB1 := hidp hb1; clear ho1 hg1 hw1 hb1))
  obtain ⟨g0, hg0⟩ : ∃ g0, W0.heap.size = g0 := ⟨_, rfl⟩
  rw [hg0] at HW1 HB1
  have HG0 := hidp hg0
  rw [hg0]
  have hgw1 : g0 < w1.heap.size := HW1.out.lt
  clear hg0
  have HD1 : Hid (DoneC ls 1 0 (List.replicate n [])) := by have := DoneC.begin ls; rw [HLEN.out] at this; exact this
  go_loopg [4, 5, 6] 20 (fun g v4 v5 v6 wr => ∃ (T : ByteArray) (b : Bool) (m : Nat) (d : List (List UInt8)), v4 = .string T ∧ v5 = .bool b ∧ v6 = .int .i64 m ∧ 1 ≤ m ∧ m + g = 21 ∧ g0 < wr.heap.size ∧ Hid (LastC ls m 0 T.data.toList b) ∧ Hid (DoneC ls m 0 d) ∧ Hid (WrE ES wr g0 0 d) ∧ Hid (Below g0 W0 wr))
  case atStart => exact ⟨⟨#[]⟩, false, 1, List.replicate n [], rfl, rfl, rfl, by omega, by omega, hgw1, (show Hid _ from LastC.begin ls), HD1, HW1, HB1⟩
  case round =>
    obtain ⟨T, b, m, d, rfl, rfl, rfl, hm1, hmg, hgl, HT, HD, HW, HB⟩ := hrel
    by_cases hm : m ≤ 20
    · have hmz : (m : Int) ≤ 20 := by omega
      obtain ⟨W1, hW1⟩ : ∃ W1, W1 = wr := ⟨_, rfl⟩
      subst hW1
      go_wp2
      go_loopg [4, 5, 7] n (fun gi v4 v5 v7 wr => ∃ (T : ByteArray) (b : Bool) (i : Nat) (d : List (List UInt8)), v4 = .string T ∧ v5 = .bool b ∧ v7 = .int .i64 i ∧ i + gi = n ∧ g0 < wr.heap.size ∧ Hid (LastC ls m i T.data.toList b) ∧ Hid (DoneC ls m i d) ∧ Hid (WrE ES wr g0 0 d) ∧ Hid (Below g0 W0 wr))
      case atStart => exact ⟨T, b, 0, d, rfl, rfl, rfl, by omega, hgl, HT, HD, HW, HB⟩
      case round =>
        obtain ⟨T, b, i, d, rfl, rfl, rfl, hgi, hgl, HT, HD, HW, HB⟩ := hrel
        by_cases hlt : i < n
        · have hlz : (i : Int) < (n : Int) := by omega
          obtain ⟨x, hx⟩ : ∃ x, l[i]? = some x := ⟨_, List.getElem?_eq_getElem (by have := HN.out; omega)⟩
          obtain ⟨x0, x1⟩ := HRNG.out x (List.mem_of_getElem? hx)
          obtain ⟨a, rfl⟩ : ∃ a : Nat, x = a := ⟨x.toNat, by omega⟩
          have hga := HGET.out i _ hx
          rw [Int.toNat_natCast] at hga
          obtain ⟨b1, o1, rfl, _, _, hr1⟩ := HL.out.some (by omega)
          have hb1 : b1 < g0 := by rw [← HG0.out]; exact hr1.1
          have c0 := (hr1.below (B := g0) HB.out hb1).int hx
          have HGA := hidp hga
          clear hx hr1 hga
          by_cases ham : a = m
          · subst ham
            have hdl : i < d.length := by have := HD.out.1; have := HLEN.out; omega
            obtain ⟨y, hy⟩ : ∃ y, d[i]? = some y := ⟨_, List.getElem?_eq_getElem hdl⟩
            have HDL := hidp hdl
            have HY := hidp hy
            have HAF : Hid (LastC ls a (i + 1) (codeB ls i) true) := LastC.after HTOP.out HGA.out (by omega) (by omega)
            have hne : ((a : Int) != (a : Int)) = false := by simp
            obtain ⟨W2, hW2⟩ : ∃ W2, W2 = wr := ⟨_, rfl⟩
            subst hW2
            obtain ⟨cy, fy⟩ := HW.out.str HY.out
            clear hdl hy
            cases b
            · obtain ⟨e1, e2⟩ := HT.out.none_hit HGA.out
              have HE1 : Hid (T.data.toList = [] ++ List.replicate 0 48) := by show _ = _; rw [e1]; rfl
              have HE2 : Hid (codeB ls i = [] ++ List.replicate a 48) := by show _ = _; rw [e2]; rfl
              have hts : T.size = 0 := by rw [Lib.size_eq, e1]; rfl
              clear e1 e2
              go_wp2
              go_loopg [4] a (fun gp v4 wr => ∃ (P : ByteArray) (s : Nat), v4 = .string P ∧ P.size = s ∧ s + gp = a ∧ W2 = wr ∧ Hid (P.data.toList = [] ++ List.replicate s 48))
              case atStart => exact ⟨T, 0, rfl, hts, by omega, rfl, HE1⟩
              case round =>
                obtain ⟨P, s, rfl, hps, hpg, hw, HP⟩ := hrel
                subst hw
                by_cases hsa : s < a
                · have hsz : (s : Int) < (a : Int) := by omega
                  have HP2 := hidp (pads P HP.out)
                  have hp2 : (P ++ ⟨#[48]⟩).size = s + 1 := by rw [Lib.size_eq, HP2.out]; simp
                  go_wp2
                  go_roundg (a - (s + 1))
                  case measure => omega
                  case rel => exact ⟨P ++ ⟨#[48]⟩, s + 1, rfl, hp2, by omega, rfl, HP2⟩
                · have hsz : ¬ (s : Int) < (a : Int) := by omega
                  have HPC : Hid (P.data.toList = codeB ls i) := by show _ = _; rw [HP.out, HE2.out, show s = a by omega]
                  have HPV : Hid (Value.string P = sV (codeB ls i)) := by show _ = _; exact congrArg Value.string (bytes_ext (by simpa using HPC.out))
                  go_wp2
                  go_roundg (n - (i + 1))
                  case measure => omega
                  case rel => exact ⟨P, true, i + 1, d.set i (codeB ls i), rfl, rfl, by go_num, by omega, (by simp [World.setCell]; omega), (show Hid _ from by rw [HPC.out]; exact HAF.out), (show Hid _ from HD.out.hit HGA.out), (show Hid _ from by rw [HPV.out]; exact HW.out.setStr HDL.out _), (show Hid _ from HB.out.setCell (Nat.le_refl _) _)⟩
            · obtain ⟨k, c, hka, e1, hc, e2⟩ := HT.out.some_hit HTOP.out HGA.out (by omega) (by omega)
              have HM := hidp (refMore_any (w := W2) e1 (by omega) hc)
              have HE2 := hidp e2
              clear e1 hc e2
              go_wp2_with (first | (go_at_call 27; refine HM.out.mono ?_; rintro e w2 ⟨⟨M, rfl, hM⟩, hw2⟩; subst hw2; have HMM := hidp hM; clear hM))
              have hms : M.size = k := by rw [Lib.size_eq, HMM.out, bitsU_len]
              go_loopg [4] a (fun gp v4 wr => ∃ (P : ByteArray) (s : Nat), v4 = .string P ∧ P.size = k + s ∧ s + gp = a ∧ k + s ≤ a ∧ W2 = wr ∧ Hid (P.data.toList = bitsU k (c + 1) ++ List.replicate s 48))
              case atStart => exact ⟨M, 0, rfl, hms, by omega, by omega, rfl, (show Hid _ from by show _ = _; rw [HMM.out, List.replicate_zero, List.append_nil])⟩
              case round =>
                obtain ⟨P, s, rfl, hps, hpg, hks, hw, HP⟩ := hrel
                subst hw
                by_cases hsa : k + s < a
                · have hsz : ((k + s : Nat) : Int) < (a : Int) := by omega
                  have hsz2 : (k : Int) + (s : Int) < (a : Int) := by omega
                  have HP2 := hidp (pads P HP.out)
                  have hp2 : (P ++ ⟨#[48]⟩).size = k + (s + 1) := by rw [Lib.size_eq, HP2.out]; simp [bitsU_len]
                  go_wp2
                  go_roundg (a - (s + 1))
                  case measure => omega
                  case rel => exact ⟨P ++ ⟨#[48]⟩, s + 1, rfl, hp2, by omega, by omega, rfl, HP2⟩
                · have hsz : ¬ ((k + s : Nat) : Int) < (a : Int) := by omega
                  have hsz2 : ¬ (k : Int) + (s : Int) < (a : Int) := by omega
                  have HPC : Hid (P.data.toList = codeB ls i) := by show _ = _; rw [HP.out, HE2.out, show s = a - k by omega]
                  have HPV : Hid (Value.string P = sV (codeB ls i)) := by show _ = _; exact congrArg Value.string (bytes_ext (by simpa using HPC.out))
                  go_wp2
                  go_roundg (n - (i + 1))
                  case measure => omega
                  case rel => exact ⟨P, true, i + 1, d.set i (codeB ls i), rfl, rfl, by go_num, by omega, (by simp [World.setCell]; omega), (show Hid _ from by rw [HPC.out]; exact HAF.out), (show Hid _ from HD.out.hit HGA.out), (show Hid _ from by rw [HPV.out]; exact HW.out.setStr HDL.out _), (show Hid _ from HB.out.setCell (Nat.le_refl _) _)⟩
          · have haz : ((a : Int) != (m : Int)) = true := by simp; omega
            have haz2 : ¬ (a : Int) = (m : Int) := by omega
            go_wp2
            go_roundg (n - (i + 1))
            case measure => omega
            case rel => exact ⟨T, b, i + 1, d, rfl, rfl, by go_num, by omega, hgl, (show Hid _ from HT.out.miss HGA.out ham), (show Hid _ from HD.out.miss HGA.out ham), HW, HB⟩
        · have hlz : ¬ (i : Int) < (n : Int) := by omega
          have hin : i = n := by omega
          have HTN : Hid (LastC ls (m + 1) 0 T.data.toList b) := by
            have := HT.out
            rw [hin, ← HLEN.out] at this
            exact this.next hm1
          have HDN : Hid (DoneC ls (m + 1) 0 d) := by
            have := HD.out
            rw [hin, ← HLEN.out] at this
            exact this.next
          clear hin
          go_wp2
          go_roundg (20 - m)
          case measure => omega
          case rel => exact ⟨T, b, m + 1, d, rfl, rfl, by go_num, by omega, by omega, hgl, HTN, HDN, HW, HB⟩
    · have hmz : ¬ (m : Int) ≤ 20 := by omega
      have HE : Hid (d = codesI l) := by
        show _ = _
        obtain rfl : m = 21 := by omega
        unfold codesI
        rw [HLS.out]
        exact HD.out.all HALL.out
      have HNL : Hid ((codesI l).length = n) := by show _ = _; rw [codesI_len, HN.out]
      clear HD HT
      go_wp2
      go_ret
      have hr := HW.out.rd
      rw [HE.out] at hr
      exact ⟨g0, rfl, SlE.of_rd hr HNL.out (Nat.le_refl _), by rw [HG0.out]; exact HB.out⟩
#print axioms refCodes_some
set_option maxHeartbeats 4000000 in
theorem refCodes_none {w : World} {p : Option Addr} {cap : Nat} :
    Calls Tryd.prog 10 #[.slice p 0 cap] w fun e w' => ∃ g, e = .returned (.slice (some ⟨g, 0, none⟩) 0 0) ∧ Below w.heap.size w w' := by
  obtain ⟨i0, hi, hz0, hz1, hz2'⟩ := ES.infoE
  obtain ⟨W0, hW0⟩ : ∃ W0, W0 = w := ⟨_, rfl⟩
  subst hW0
  go_enter Tryd.func10, Tryd.ntmps10
  go_wp2_with (first | (at_make; refine wpList_make_full _ rfl (.tmp 9) (.tmp 9) 24 rfl W0.heap.size 9 i0 (.string ⟨#[]⟩) 1 Tryd.underlying24 hi hz0 hz1 .i64 .i64 _ _ 0 rfl rfl rfl rfl (by simp) (by unfold maxLen; omega) (Nat.le_refl _) ?_; intro w1 ho1 hg1; have hb1 : Below W0.heap.size W0 w1 := (Below.refl _ _).grown hg1 (Nat.le_refl _) (fun k e => by cases e); have HB1 := hidp hb1; clear ho1 hg1 hb1))
  go_loopg [6] 20 (fun g v6 wr => ∃ (m : Nat), v6 = .int .i64 m ∧ m + g = 21 ∧ wr = w1)
  case atStart => exact ⟨1, rfl, by omega, rfl⟩
  case round =>
    obtain ⟨m, rfl, hmg, rfl⟩ := hrel
    by_cases hm : m ≤ 20
    · have hmz : (m : Int) ≤ 20 := by omega
      go_wp2
      refine wp_loop_rounds 1 ?_
      rw [rounds_succ]
      go_wp2
      go_roundg (20 - m)
      case measure => omega
      case rel => exact ⟨m + 1, by go_num, by omega, rfl⟩
    · have hmz : ¬ (m : Int) ≤ 20 := by omega
      go_wp2
      go_ret
      exact ⟨⟨_, rfl⟩, HB1.out⟩
theorem refCodes_any {w : World} {v : Value} {l : List Int} (h : SlE EZ w v l) (h0 : wrongK l = 0) :
    Calls Tryd.prog 10 #[v] w fun e w' => ∃ g, e = .returned (.slice (some ⟨g, 0, none⟩) l.length l.length) ∧ SlE ES w' (.slice (some ⟨g, 0, none⟩) l.length l.length) (codesI l) ∧ Below w.heap.size w w' := by
  by_cases hn : l.length = 0
  · obtain rfl := List.eq_nil_of_length_eq_zero hn
    obtain ⟨p, cap, rfl, _⟩ := id h
    exact refCodes_none.mono fun e w' ⟨g, h1, h2⟩ => ⟨g, h1, SlE.empty w' _ 0, h2⟩
  · exact refCodes_some h h0 hn
#print axioms refCodes_any
end Go.Proofs.YtlaeaeciomkabaaDoor
