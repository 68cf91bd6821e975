/-
  The document's codes: one more than a text of bits (more).
-/
import Derived.Test.YtlaeaeciomkabaaDoorCoDe
namespace Go.Proofs.YtlaeaeciomkabaaDoor
open Go.RowKit Go.Sort Go.Proofs

theorem extract_head {T : ByteArray} {b : Nat} : (T.extract 0 b).data.toList = T.data.toList.take b := by
  rw [Lib.extract_eq]
  show ((T.data.toList.drop 0).take (b - 0)).toArray.toList = _
  simp
set_option maxHeartbeats 8000000 in
set_option maxRecDepth 20000 in
theorem refMore_any {w : World} {S : ByteArray} {n c : Nat} (hS : S.data.toList = bitsU n c) (hn : n ≤ 20) (hc : c + 1 < 2 ^ n) :
    Calls Tryd.prog 27 #[.string S] w fun e w' => (∃ S' : ByteArray, e = .returned (.string S') ∧ S'.data.toList = bitsU n (c + 1)) ∧ w = w' := by
  have hsz : S.size = n := by rw [Lib.size_eq, hS, bitsU_len]
  have hn0 : 1 ≤ n := by
    rcases Nat.eq_zero_or_pos n with z | z
    · subst z; rw [Nat.pow_zero] at hc; omega
    · exact z
  have hw1 : wrap64 ((n : Int) - 1) = ((n - 1 : Nat) : Int) := by unfold wrap64; omega
  have hw2 : (n : Int) - 1 = ((n - 1 : Nat) : Int) := by omega
  have HS := hidp hS
  have HC := hidp hc
  have HSZ := hidp hsz
  clear hS hc
  go_enter Tryd.func27, Tryd.ntmps27
  go_wp2
  go_loopg [3, 4] n (fun g vi vo wr => ∃ (j d : Nat) (O : ByteArray), vi = .int .i64 (j : Int) ∧ vo = .string O ∧ O.size = d ∧ j + 1 + d = n ∧ j ≤ g ∧ w = wr ∧ Hid (O.data.toList = List.replicate d 48) ∧ Hid (∀ k, j < k → k < n → (bitsU n c)[k]? = some 49))
  case atStart => exact ⟨n - 1, 0, ⟨#[]⟩, rfl, rfl, rfl, by omega, by omega, rfl, (show Hid _ from rfl), (show Hid _ from fun k h1 h2 => by omega)⟩
  case round =>
    obtain ⟨j, d, O, rfl, rfl, hO, hj, hjg, hw, HO, HK⟩ := hrel
    subst hw
    have hjs : j < S.size := by omega
    have hjz : (0 : Int) ≤ (j : Int) := by omega
    have hjn : (j : Int) < (n : Int) := by omega
    have hneg : ¬ (j : Int) < 0 := by omega
    have hget : (S.data.toList)[j]? = some (S[j]'hjs) := by
      rw [List.getElem?_eq_getElem (by rw [← Lib.size_eq]; exact hjs)]
      rfl
    by_cases h1 : S[j]'hjs = 49
    · have hb : ((S[j]'hjs).toNat : Int) = 49 := by rw [h1]; rfl
      have hj1 : 1 ≤ j := by
        rcases Nat.eq_zero_or_pos j with z | z
        · exfalso
          subst z
          have := bitsU_ones n c (fun k hk => by
            rcases Nat.eq_zero_or_pos k with y | y
            · subst y; rw [← HS.out, hget, h1]
            · exact HK.out k y hk) (by have := HC.out; omega)
          have := HC.out; omega
        · exact z
      have hw3 : wrap64 ((j : Int) - 1) = ((j - 1 : Nat) : Int) := by unfold wrap64; omega
      have hw4 : (j : Int) - 1 = ((j - 1 : Nat) : Int) := by omega
      have HK2 : Hid (∀ k, j - 1 < k → k < n → (bitsU n c)[k]? = some 49) := fun k k1 k2 => by
        rcases Nat.lt_or_ge j k with y | y
        · exact HK.out k y k2
        · obtain rfl : k = j := by omega
          rw [← HS.out, hget, h1]
      clear hget h1
      go_wp2
      go_roundg (j - 1)
      case measure => omega
      case rel => exact ⟨j - 1, d + 1, O ++ ⟨#[48]⟩, by go_num, rfl, by rw [ByteArray.size_append, hO]; rfl, by omega, Nat.le_refl _, rfl, (show Hid _ from by show _ = _; rw [List.replicate_succ', ← HO.out]; simp), HK2⟩
    · have hb : ¬ ((S[j]'hjs).toNat : Int) = 49 := fun q => h1 (UInt8.toNat.inj (by show (S[j]'hjs).toNat = 49; omega))
      have h48 : (bitsU n c)[j]? = some 48 := by
        have hlt : j < n := by omega
        have e : (bitsU n c)[j]? = some ((bitsU n c)[j]'(by rw [bitsU_len]; exact hlt)) := List.getElem?_eq_getElem (by rw [bitsU_len]; exact hlt)
        rcases bitsU_get48 n c j hlt with q | q
        · rw [e, q]
        · exfalso
          rw [q, ← HS.out, hget] at e
          exact h1 (Option.some.inj e)
      have hm := bitsU_more n c j (by omega) h48 HK.out
      have HM := hidp hm
      have hbz : (((S[j]'hjs).toNat : Int) == 49) = false := beq_eq_false_iff_ne.2 hb
      have HX : Hid ((S.extract 0 j).data.toList = S.data.toList.take j) := extract_head
      have hxs : (S.extract 0 j).size = j := by rw [Lib.size_eq, HX.out, List.length_take, ← Lib.size_eq]; omega
      have hxt : (S.extract 0 j ++ ⟨#[49]⟩).size = j + 1 := by rw [ByteArray.size_append, hxs]; rfl
      have hd : n - 1 - j = d := by omega
      rw [hd] at HM
      clear hget h1 h48 hm hd
      go_wp2
      go_ret
      refine ⟨⟨_, rfl, ?_⟩, rfl⟩
      rw [HM.out, ← HO.out, ← HS.out, ← HX.out]
      simp
#print axioms refMore_any
end Go.Proofs.YtlaeaeciomkabaaDoor
