/-
  bino.checkRanks: what is wrong with the ranks of a heap, and with how many items there are.
-/
import Derived.Test.YtmkjalpgeljnkaaDoorRefB7
import Derived.Test.YtmkjalpgeljnkaaDoorRefB5
namespace Go.Proofs.YtmkjalpgeljnkaaDoor
open Go.RowKit Go.Sort Go.Proofs

theorem Ranks.says1 {h : List (Int × List (Int × Int))} {i all : Nat} {last r : Int} {l : List (Int × Int)} (H : Ranks h i last all) (hx : h[i]? = some (r, l)) (h1 : r < 0 ∨ 5 < r) : errV (rankE (-1) h) = .iface 56 (.int .i64 1) := by
  rw [H.eq, drop_get hx]; simp only [rankE]; rw [if_pos h1]; rfl
theorem Ranks.says3 {h : List (Int × List (Int × Int))} {i all : Nat} {last r : Int} {l : List (Int × Int)} (H : Ranks h i last all) (hx : h[i]? = some (r, l)) (h1 : ¬ (r < 0 ∨ 5 < r)) (h2 : r ≤ last ∨ l.length ≠ 2 ^ r.toNat) : errV (rankE (-1) h) = .iface 56 (.int .i64 3) := by
  rw [H.eq, drop_get hx]; simp only [rankE]; rw [if_neg h1, if_pos h2]; rfl
set_option maxHeartbeats 16000000 in
set_option maxRecDepth 4000 in
theorem ranks_some (p : Option Addr) (n cap : Nat) (h : List (Int × List (Int × Int))) (w : World) (hn : n ≤ 9223372036854775807) (HN : Hid (h.length = n)) (HA : Hid (HpAt w (.slice p n cap) h)) (HL : Hid (∀ t ∈ h, t.2.length ≤ 9223372036854775807)) :
    Calls Tryd.prog 30 #[.slice p n cap] w fun e w' => e = .returned (errV (rankE (-1) h)) ∧ Below w.heap.size w w' := by
  go_enter Tryd.func30, Tryd.ntmps30
  go_wp2
  go_loopg [3, 8] n (fun gg v3 v8 wr => ∃ (i all : Nat) (last : Int), v3 = .int .i64 last ∧ v8 = .int .i64 i ∧ i ≤ n ∧ n - i ≤ gg ∧ Hid (Ranks h i last all) ∧ Hid (Below w.heap.size w wr))
  case atStart => exact ⟨0, 0, -1, rfl, rfl, Nat.zero_le _, by omega, Ranks.start h, Below.refl _ _⟩
  case round =>
    obtain ⟨i, all, last, rfl, rfl, hin, hg, HR, HB⟩ := hrel
    have hlo := HR.out.low
    have hhi := HR.out.high
    have hB : w.heap.size ≤ wr.heap.size := HB.out.size
    by_cases hlt : i < n
    · have hlz : (i : Int) < (n : Int) := by omega
      obtain ⟨⟨r, l⟩, hx⟩ : ∃ x, h[i]? = some x := ⟨h[i]'(by rw [HN.out]; omega), by simp⟩
      obtain ⟨blk, off, q, c, rfl, hblk, c0, c1, hsl⟩ := HA.out.tree hx
      have hlen : l.length ≤ 9223372036854775807 := HL.out _ (List.mem_of_getElem? hx)
      have t0 := (HB.out.cell (p := ⟨blk, off + i * 2, none⟩) hblk).trans c0
      have t1 := (HB.out.cell (p := ⟨blk, off + i * 2 + 1, none⟩) hblk).trans c1
      have hbw : blk < wr.heap.size := by omega
      obtain ⟨ln, hln⟩ : ∃ m, l.length = m := ⟨_, rfl⟩
      rw [hln] at t1 hlen
      have HX : Hid (h[i]? = some (r, l)) := hx
      have HLN : Hid (l.length = ln) := hln
      have HB' : Hid (∀ o, Below w.heap.size w (wr.alloc o)) := fun o => HB.out.alloc hB o
      clear hx hln c0 c1 hsl
      by_cases h1 : r < 0
      · go_wp2
        go_ret
        exact ⟨congrArg Ending.returned (HR.out.says1 HX.out (Or.inl h1)).symm, HB'.out _⟩
      · by_cases h2 : 5 < r
        · have h3 : (6 : Int) ≤ r := by omega
          go_wp2
          go_ret
          exact ⟨congrArg Ending.returned (HR.out.says1 HX.out (Or.inr h2)).symm, HB'.out _⟩
        · have hr6 : r = 0 ∨ r = 1 ∨ r = 2 ∨ r = 3 ∨ r = 4 ∨ r = 5 := by omega
          rcases hr6 with rfl | rfl | rfl | rfl | rfl | rfl
          · by_cases h3 : (0 : Int) ≤ last
            · have hd : decide ((0 : Int) ≤ last) = true := decide_eq_true h3
              have HE : Hid (errV (rankE (-1) h) = .iface 56 (.int .i64 3)) := HR.out.says3 HX.out (by omega) (Or.inl h3)
              go_wp2_with fail
              go_quiet (fail)
              go_wp2
              go_ret
              exact ⟨congrArg Ending.returned HE.out.symm, below_drewN (HB'.out _) nq⟩
            · have hd : decide ((0 : Int) ≤ last) = false := decide_eq_false h3
              by_cases h4 : ln = 1
              · subst h4
                have HR' : Hid (Ranks h (i + 1) 0 (all + l.length)) := HR.out.step HX.out (by omega) (fun e => e.elim (fun a => h3 a) (fun a => a HLN.out))
                go_wp2_with fail
                go_quiet (fail)
                go_wp2
                go_roundg (n - (i + 1))
                case measure => omega
                case rel => exact ⟨i + 1, _, 0, rfl, by go_num, by omega, Nat.le_refl _, HR', below_drewN (HB'.out _) nq⟩
              · have hne : ((ln : Int) != 1) = true := by rw [bne_iff_ne]; omega
                have HE : Hid (errV (rankE (-1) h) = .iface 56 (.int .i64 3)) := HR.out.says3 HX.out (by omega) (Or.inr (fun e => h4 (by rw [← HLN.out]; exact e)))
                go_wp2_with fail
                go_quiet (fail)
                go_wp2
                go_ret
                exact ⟨congrArg Ending.returned HE.out.symm, below_drewN (HB'.out _) nq⟩
          · by_cases h3 : (1 : Int) ≤ last
            · have hd : decide ((1 : Int) ≤ last) = true := decide_eq_true h3
              have HE : Hid (errV (rankE (-1) h) = .iface 56 (.int .i64 3)) := HR.out.says3 HX.out (by omega) (Or.inl h3)
              go_wp2_with fail
              go_quiet (fail)
              go_wp2
              go_ret
              exact ⟨congrArg Ending.returned HE.out.symm, below_drewN (HB'.out _) nq⟩
            · have hd : decide ((1 : Int) ≤ last) = false := decide_eq_false h3
              by_cases h4 : ln = 2
              · subst h4
                have HR' : Hid (Ranks h (i + 1) 1 (all + l.length)) := HR.out.step HX.out (by omega) (fun e => e.elim (fun a => h3 a) (fun a => a HLN.out))
                go_wp2_with fail
                go_quiet (fail)
                go_wp2
                go_roundg (n - (i + 1))
                case measure => omega
                case rel => exact ⟨i + 1, _, 1, rfl, by go_num, by omega, Nat.le_refl _, HR', below_drewN (HB'.out _) nq⟩
              · have hne : ((ln : Int) != 2) = true := by rw [bne_iff_ne]; omega
                have HE : Hid (errV (rankE (-1) h) = .iface 56 (.int .i64 3)) := HR.out.says3 HX.out (by omega) (Or.inr (fun e => h4 (by rw [← HLN.out]; exact e)))
                go_wp2_with fail
                go_quiet (fail)
                go_wp2
                go_ret
                exact ⟨congrArg Ending.returned HE.out.symm, below_drewN (HB'.out _) nq⟩
          · by_cases h3 : (2 : Int) ≤ last
            · have hd : decide ((2 : Int) ≤ last) = true := decide_eq_true h3
              have HE : Hid (errV (rankE (-1) h) = .iface 56 (.int .i64 3)) := HR.out.says3 HX.out (by omega) (Or.inl h3)
              go_wp2_with fail
              go_quiet (fail)
              go_wp2
              go_ret
              exact ⟨congrArg Ending.returned HE.out.symm, below_drewN (HB'.out _) nq⟩
            · have hd : decide ((2 : Int) ≤ last) = false := decide_eq_false h3
              by_cases h4 : ln = 4
              · subst h4
                have HR' : Hid (Ranks h (i + 1) 2 (all + l.length)) := HR.out.step HX.out (by omega) (fun e => e.elim (fun a => h3 a) (fun a => a HLN.out))
                go_wp2_with fail
                go_quiet (fail)
                go_wp2
                go_roundg (n - (i + 1))
                case measure => omega
                case rel => exact ⟨i + 1, _, 2, rfl, by go_num, by omega, Nat.le_refl _, HR', below_drewN (HB'.out _) nq⟩
              · have hne : ((ln : Int) != 4) = true := by rw [bne_iff_ne]; omega
                have HE : Hid (errV (rankE (-1) h) = .iface 56 (.int .i64 3)) := HR.out.says3 HX.out (by omega) (Or.inr (fun e => h4 (by rw [← HLN.out]; exact e)))
                go_wp2_with fail
                go_quiet (fail)
                go_wp2
                go_ret
                exact ⟨congrArg Ending.returned HE.out.symm, below_drewN (HB'.out _) nq⟩
          · by_cases h3 : (3 : Int) ≤ last
            · have hd : decide ((3 : Int) ≤ last) = true := decide_eq_true h3
              have HE : Hid (errV (rankE (-1) h) = .iface 56 (.int .i64 3)) := HR.out.says3 HX.out (by omega) (Or.inl h3)
              go_wp2_with fail
              go_quiet (fail)
              go_wp2
              go_ret
              exact ⟨congrArg Ending.returned HE.out.symm, below_drewN (HB'.out _) nq⟩
            · have hd : decide ((3 : Int) ≤ last) = false := decide_eq_false h3
              by_cases h4 : ln = 8
              · subst h4
                have HR' : Hid (Ranks h (i + 1) 3 (all + l.length)) := HR.out.step HX.out (by omega) (fun e => e.elim (fun a => h3 a) (fun a => a HLN.out))
                go_wp2_with fail
                go_quiet (fail)
                go_wp2
                go_roundg (n - (i + 1))
                case measure => omega
                case rel => exact ⟨i + 1, _, 3, rfl, by go_num, by omega, Nat.le_refl _, HR', below_drewN (HB'.out _) nq⟩
              · have hne : ((ln : Int) != 8) = true := by rw [bne_iff_ne]; omega
                have HE : Hid (errV (rankE (-1) h) = .iface 56 (.int .i64 3)) := HR.out.says3 HX.out (by omega) (Or.inr (fun e => h4 (by rw [← HLN.out]; exact e)))
                go_wp2_with fail
                go_quiet (fail)
                go_wp2
                go_ret
                exact ⟨congrArg Ending.returned HE.out.symm, below_drewN (HB'.out _) nq⟩
          · by_cases h3 : (4 : Int) ≤ last
            · have hd : decide ((4 : Int) ≤ last) = true := decide_eq_true h3
              have HE : Hid (errV (rankE (-1) h) = .iface 56 (.int .i64 3)) := HR.out.says3 HX.out (by omega) (Or.inl h3)
              go_wp2_with fail
              go_quiet (fail)
              go_wp2
              go_ret
              exact ⟨congrArg Ending.returned HE.out.symm, below_drewN (HB'.out _) nq⟩
            · have hd : decide ((4 : Int) ≤ last) = false := decide_eq_false h3
              by_cases h4 : ln = 16
              · subst h4
                have HR' : Hid (Ranks h (i + 1) 4 (all + l.length)) := HR.out.step HX.out (by omega) (fun e => e.elim (fun a => h3 a) (fun a => a HLN.out))
                go_wp2_with fail
                go_quiet (fail)
                go_wp2
                go_roundg (n - (i + 1))
                case measure => omega
                case rel => exact ⟨i + 1, _, 4, rfl, by go_num, by omega, Nat.le_refl _, HR', below_drewN (HB'.out _) nq⟩
              · have hne : ((ln : Int) != 16) = true := by rw [bne_iff_ne]; omega
                have HE : Hid (errV (rankE (-1) h) = .iface 56 (.int .i64 3)) := HR.out.says3 HX.out (by omega) (Or.inr (fun e => h4 (by rw [← HLN.out]; exact e)))
                go_wp2_with fail
                go_quiet (fail)
                go_wp2
                go_ret
                exact ⟨congrArg Ending.returned HE.out.symm, below_drewN (HB'.out _) nq⟩
          · by_cases h3 : (5 : Int) ≤ last
            · have hd : decide ((5 : Int) ≤ last) = true := decide_eq_true h3
              have HE : Hid (errV (rankE (-1) h) = .iface 56 (.int .i64 3)) := HR.out.says3 HX.out (by omega) (Or.inl h3)
              go_wp2_with fail
              go_quiet (fail)
              go_wp2
              go_ret
              exact ⟨congrArg Ending.returned HE.out.symm, below_drewN (HB'.out _) nq⟩
            · have hd : decide ((5 : Int) ≤ last) = false := decide_eq_false h3
              by_cases h4 : ln = 32
              · subst h4
                have HR' : Hid (Ranks h (i + 1) 5 (all + l.length)) := HR.out.step HX.out (by omega) (fun e => e.elim (fun a => h3 a) (fun a => a HLN.out))
                go_wp2_with fail
                go_quiet (fail)
                go_wp2
                go_roundg (n - (i + 1))
                case measure => omega
                case rel => exact ⟨i + 1, _, 5, rfl, by go_num, by omega, Nat.le_refl _, HR', below_drewN (HB'.out _) nq⟩
              · have hne : ((ln : Int) != 32) = true := by rw [bne_iff_ne]; omega
                have HE : Hid (errV (rankE (-1) h) = .iface 56 (.int .i64 3)) := HR.out.says3 HX.out (by omega) (Or.inr (fun e => h4 (by rw [← HLN.out]; exact e)))
                go_wp2_with fail
                go_quiet (fail)
                go_wp2
                go_ret
                exact ⟨congrArg Ending.returned HE.out.symm, below_drewN (HB'.out _) nq⟩
    · obtain rfl : i = n := by omega
      have HE : Hid (errV (rankE (-1) h) = .nilIface) := by show _ = _; have := HR.out; rw [← HN.out] at this; rw [this.ok.1]; rfl
      go_wp2
      go_ret
      exact ⟨congrArg Ending.returned HE.out.symm, HB.out⟩
#print axioms ranks_some
end Go.Proofs.YtmkjalpgeljnkaaDoor
