/-
  The law CodeText, walked: no byte is lost.
-/
import Derived.Test.YtlaeaeciomkababDoorCoRu
namespace Go.Proofs.YtlaeaeciomkababDoor
open Go.RowKit Go.Sort Go.Proofs

theorem fact_runes : runesS [97, 255] = [97, -256] := by decide +kernel
set_option maxHeartbeats 16000000 in
set_option maxRecDepth 20000 in
theorem codeText_any (S : ByteArray) (w : World) (hU : Utf w) :
    Calls Tryd.prog 3 #[.string S] w fun e w' => e = .returned (.bool true) ∧ Below w.heap.size w w' := by
  have c0 := runes_ok (T := ⟨#[97, 255]⟩) (by decide) hU
  rw [show runesS (ByteArray.mk #[97, 255]).data.toList = [97, -256] from fact_runes] at c0
  have C0 := hidp c0
  have HU := hidp hU
  clear c0 hU
  by_cases hl : 60 < S.size
  · have HL := hidp (fun W => runes_long (w := W) hl)
    obtain ⟨a, ha⟩ : ∃ a, S.size = a := ⟨_, rfl⟩
    rw [ha] at hl
    have hd : decide ((60 : Int) < (a : Int)) = true := decide_eq_true (by omega)
    go_enter Tryd.func3, Tryd.ntmps3
    go_wp2_with fail
    refine C0.out.mono ?_
    rintro e w1 ⟨u, rfl, hs1, hb1⟩
    obtain ⟨p1, c1, rfl, _⟩ := id hs1
    have CI := hidp (sameI_any (hs1.below ((Below.refl _ w1).alloc (Nat.le_refl _) (.cells #[.int .i64 97, .int .i64 (-256)] 3))) (new_nums w1 [97, -256] 3 2 2 rfl (Nat.le_refl _)) (by simp))
    simp only [decide_true] at CI
    have HB1 := hidp (hb1.alloc hb1.size (.cells #[.int .i64 97, .int .i64 (-256)] 3))
    clear hs1 hb1 C0
    go_wp2_with fail
    refine CI.out.mono ?_
    rintro e w2 ⟨rfl, q, rfl⟩
    have HB2 := hidp (below_drewN HB1.out q)
    clear CI HB1
    go_wp2_with (first | (go_at_call 6; refine (HL.out _).mono ?_; rintro e w3 ⟨rfl, rfl⟩))
    go_ret
    exact ⟨rfl, HB2.out⟩
  · have hl60 : S.size ≤ 60 := by omega
    have HR := hidp (fun W (q : Utf W) => runes_ok (w := W) hl60 q)
    have htx := text_runes S.data.toList.length (l := S.data.toList) (acc := []) (Nat.le_refl _) (by rw [← Lib.size_eq]; simpa using hl60)
    rw [List.nil_append] at htx
    have hrl := runes_len S.data.toList.length (l := S.data.toList) (Nat.le_refl _)
    rw [← Lib.size_eq] at hrl
    have HTX := hidp htx
    obtain ⟨R, hR⟩ : ∃ R, runesS S.data.toList = R := ⟨_, rfl⟩
    rw [hR] at HR HTX hrl
    obtain ⟨a, ha⟩ : ∃ a, S.size = a := ⟨_, rfl⟩
    obtain ⟨b, hb⟩ : ∃ b, R.length = b := ⟨_, rfl⟩
    rw [ha] at hl60 hrl
    rw [hb] at hrl
    have HRL := hidp hb
    have hr1 := hrl.1
    have hr2 := hrl.2
    have hw4 : wrap64 (4 * (b : Int)) = 4 * (b : Int) := by unfold wrap64; omega
    have hz1 : (b : Int) ≤ (a : Int) := by omega
    have hz2 : (a : Int) ≤ 4 * (b : Int) := by omega
    clear hl htx hrl hR hb
    go_enter Tryd.func3, Tryd.ntmps3
    go_wp2_with fail
    refine C0.out.mono ?_
    rintro e w1 ⟨u, rfl, hs1, hb1⟩
    obtain ⟨p1, c1, rfl, _⟩ := id hs1
    have CI := hidp (sameI_any (hs1.below ((Below.refl _ w1).alloc (Nat.le_refl _) (.cells #[.int .i64 97, .int .i64 (-256)] 3))) (new_nums w1 [97, -256] 3 2 2 rfl (Nat.le_refl _)) (by simp))
    simp only [decide_true] at CI
    have HB1 := hidp (hb1.alloc hb1.size (.cells #[.int .i64 97, .int .i64 (-256)] 3))
    clear hs1 hb1 C0
    go_wp2_with fail
    refine CI.out.mono ?_
    rintro e w2 ⟨rfl, q, rfl⟩
    have HB2 := hidp (below_drewN HB1.out q)
    have CR := hidp (HR.out _ (HU.out.below HB2.out))
    clear CI HB1 HR
    go_wp2_with fail
    refine CR.out.mono ?_
    rintro e w3 ⟨u3, rfl, hs3, hb3⟩
    obtain ⟨p3, c3, rfl, _⟩ := id hs3
    rw [HRL.out] at hs3 ⊢
    have CT := hidp (text_any hs3 (by rw [HRL.out]; omega))
    rw [HTX.out, show sV ((0, S.data.toList) : Nat × List UInt8).2 = .string S from congrArg Value.string (bytes_ext (by simp)), show errV ((0, S.data.toList) : Nat × List UInt8).1 = .nilIface from rfl] at CT
    have HB3 := hidp (HB2.out.trans (hb3.mono HB2.out.size))
    clear hs3 hb3 CR HB2
    go_wp2_with fail
    refine CT.out.mono ?_
    rintro e w4 ⟨rfl, hb4⟩
    have HB4 := hidp (HB3.out.trans (hb4.mono HB3.out.size))
    clear hb4 CT
    go_wp2
    go_ret
    exact ⟨rfl, HB4.out⟩
#print axioms codeText_any
end Go.Proofs.YtlaeaeciomkababDoor
