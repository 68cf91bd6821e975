/-
  Package runs: Make and Merge.
-/
import Derived.Test.YtlaeaeciomkababDoorRnE
namespace Go.Proofs.YtlaeaeciomkababDoor
open Go.RowKit Go.Sort Go.Proofs

/-- What is wrong with numbers, and with room for so many; with runs. -/
def wrongN (l : List Int) : Nat := if 60 < l.length then 4 else if anyZ l then 1 else 0
theorem wrongLL_one (l : List Int) : wrongLL [l] = wrongN l := by unfold wrongLL wrongN; simp
def wrongM (l : List Int) (room : Int) : Nat := if wrongN l = 0 then (if room < 1 ∨ 8 < room then 1 else 0) else wrongN l
def wrongG (ls : List (List Int)) : Nat := if wrongLL ls = 0 then (if ls.all upB then 0 else 3) else wrongLL ls
theorem wrongN_zero {l : List Int} (h : wrongN l = 0) : l.length ≤ 60 ∧ ∀ c ∈ l, -1000000 ≤ c ∧ c ≤ 1000000 := by
  have := wrongLL_zero (ls := [l]) (by rw [wrongLL_one]; exact h)
  exact ⟨by simpa using this.1, this.2 l (by simp)⟩
theorem wrongM_zero {l : List Int} {room : Int} (h : wrongM l room = 0) : wrongN l = 0 ∧ 1 ≤ room ∧ room ≤ 8 := by
  unfold wrongM at h
  by_cases c : wrongN l = 0
  · rw [if_pos c] at h
    by_cases d : room < 1 ∨ 8 < room
    · rw [if_pos d] at h; cases h
    · exact ⟨c, by omega, by omega⟩
  · rw [if_neg c] at h; exact absurd h c
theorem wrongG_zero {ls : List (List Int)} (h : wrongG ls = 0) : wrongLL ls = 0 ∧ ∀ l ∈ ls, upB l = true := by
  unfold wrongG at h
  by_cases c : wrongLL ls = 0
  · rw [if_pos c] at h
    by_cases d : ls.all upB = true
    · exact ⟨c, fun l hl => List.all_eq_true.1 d l hl⟩
    · rw [if_neg d] at h; cases h
  · rw [if_neg c] at h; exact absurd h c
theorem upB_pair : ∀ {l : List Int}, upB l = true → l.Pairwise (· ≤ ·)
  | [], _ => List.Pairwise.nil
  | [a], _ => List.pairwise_singleton _ _
  | a :: b :: r, h => by
    rw [upB, Bool.and_eq_true, decide_eq_true_eq] at h
    have ih := upB_pair h.2
    refine List.pairwise_cons.2 ⟨fun x hx => ?_, ih⟩
    rcases List.mem_cons.1 hx with rfl | z
    · exact h.1
    · have := (List.pairwise_cons.1 ih).1 x z; omega
theorem errV_ne {k : Nat} (h : k ≠ 0) : errV k = .iface 48 (.int .i64 k) := by unfold errV; rw [if_neg h]
theorem errV_nil {k : Nat} (h : k = 0) : errV k = .nilIface := by unfold errV; rw [if_pos h]

set_option maxHeartbeats 4000000 in
theorem make_bad {w : World} {p : Option Addr} {n cap : Nat} {l : List Int} {room : Int} (h : SlE EZ w (.slice p n cap) l) (hbig : n ≤ 9223372036854775807) (h0 : wrongM l room ≠ 0) :
    Calls Tryd.prog 16 #[.slice p n cap, .int .i64 room] w fun e w' => e = .returned (.tuple #[.slice none 0 0, errV (wrongM l room)]) ∧ Below w.heap.size w w' := by
  have hn := h.len.1
  have C := rcheck_any (.slice (some ⟨w.heap.size, 0, none⟩) 1 1) [l] _ (LLAt.one h 22 1 (Nat.le_refl _)) (by simp) (fun i x hx _ => by
    match i, hx with
    | 0, hx => cases hx; simp; omega
    | i + 1, hx => simp at hx)
  rw [wrongLL_one] at C
  by_cases c : wrongN l = 0
  · have hw : wrongM l room = 1 := by
      unfold wrongM at h0 ⊢
      rw [if_pos c] at h0 ⊢
      by_cases d : room < 1 ∨ 8 < room
      · rw [if_pos d]
      · rw [if_neg d] at h0; exact absurd rfl h0
    have hd : room < 1 ∨ 8 < room := by
      rcases Classical.em (room < 1 ∨ 8 < room) with q | q
      · exact q
      · unfold wrongM at hw; rw [if_pos c, if_neg q] at hw; cases hw
    rw [errV_nil c] at C
    have HC := hidp C
    rw [hw]
    clear C h hn c h0 hw
    rcases hd with hd | hd
    · go_enter Tryd.func16, Tryd.ntmps16
      go_wp2_with (go_at_call 30; refine HC.out.mono ?_; rintro e w' ⟨rfl, rfl⟩)
      go_ret2
      exact ⟨rfl, (Below.refl _ w).alloc (Nat.le_refl _) _⟩
    · have hd1 : ¬ room < 1 := by omega
      go_enter Tryd.func16, Tryd.ntmps16
      go_wp2_with (go_at_call 30; refine HC.out.mono ?_; rintro e w' ⟨rfl, rfl⟩)
      go_ret2
      exact ⟨rfl, (Below.refl _ w).alloc (Nat.le_refl _) _⟩
  · have hw : wrongM l room = wrongN l := by unfold wrongM; rw [if_neg c]
    rw [hw]
    rw [errV_ne c] at C ⊢
    have HC := hidp C
    clear C h hn c h0 hw
    generalize wrongN l = z at HC ⊢
    go_enter Tryd.func16, Tryd.ntmps16
    go_wp2_with (go_at_call 30; refine HC.out.mono ?_; rintro e w' ⟨rfl, rfl⟩)
    go_ret2
    exact ⟨rfl, (Below.refl _ w).alloc (Nat.le_refl _) _⟩
set_option maxHeartbeats 4000000 in
theorem make_ok {w : World} {p : Option Addr} {n cap : Nat} {l : List Int} {room : Nat} (h : SlE EZ w (.slice p n cap) l) (h0 : wrongM l room = 0) :
    Calls Tryd.prog 16 #[.slice p n cap, .int .i64 room] w fun e w' => ∃ v' ss f, e = .returned (.tuple #[v', .nilIface]) ∧ RowsS w' v' ss (rowsR (outs room l)) f ∧ f.Nodup ∧ (∀ j ∈ f, w.heap.size ≤ j) ∧ Below w.heap.size w w' := by
  have hn := h.len.1
  obtain ⟨hN, hr1, hr2⟩ := wrongM_zero h0
  obtain ⟨h60, hrng⟩ := wrongN_zero hN
  have C := rcheck_any (.slice (some ⟨w.heap.size, 0, none⟩) 1 1) [l] _ (LLAt.one h 22 1 (Nat.le_refl _)) (by simp) (fun i x hx _ => by
    match i, hx with
    | 0, hx => cases hx; simp; omega
    | i + 1, hx => simp at hx)
  rw [wrongLL_one, errV_nil hN] at C
  have hb : Below w.heap.size w (w.alloc (.cells #[.slice p n cap] 22)) := (Below.refl _ w).alloc (Nat.le_refl _) _
  have CM := made_any (room := room) (h.below hb) (by omega) hrng (by omega) (by omega)
  have HC := hidp C
  have HCM := hidp CM
  have HB := hidp hb
  have hd1 : ¬ (room : Int) < 1 := by omega
  have hd2 : ¬ (8 : Int) < (room : Int) := by omega
  clear C CM hb h hn h0 hN h60 hrng
  go_enter Tryd.func16, Tryd.ntmps16
  go_wp2_with (first | (go_at_call 30; refine HC.out.mono ?_; rintro e w' ⟨rfl, rfl⟩) | (go_at_call 31; refine HCM.out.mono ?_; rintro e w3 ⟨v', ss, f, rfl, hR, hnd, hge, hb3⟩; have HR := hidp hR; have HND := hidp hnd; have HGE := hidp hge; have HB3 := hidp hb3; clear hR hnd hge hb3))
  go_ret2
  exact ⟨_, ss, f, rfl, HR.out, HND.out, fun j hj => Nat.le_trans HB.out.size (HGE.out j hj), HB.out.trans (HB3.out.mono HB.out.size)⟩
set_option maxHeartbeats 4000000 in
theorem merge_bad {w : World} {p : Option Addr} {n cap : Nat} {ls : List (List Int)} (h : LLAt w (.slice p n cap) ls) (hbig : n ≤ 9223372036854775807) (hls : ∀ (i : Nat) (l : List Int), ls[i]? = some l → (ls.take i).flatten.length ≤ 60 → (ls.take i).flatten.length + l.length ≤ 9223372036854775807) (h0 : wrongG ls ≠ 0) :
    Calls Tryd.prog 20 #[.slice p n cap] w fun e w' => e = .returned (.tuple #[.slice none 0 0, errV (wrongG ls)]) ∧ Below w.heap.size w w' := by
  have hn := h.len
  have C := rcheck_any _ ls w h (by omega) hls
  by_cases c : wrongLL ls = 0
  · have hw : wrongG ls = 3 := by
      unfold wrongG at h0 ⊢
      rw [if_pos c] at h0 ⊢
      by_cases d : ls.all upB = true
      · rw [if_pos d] at h0; exact absurd rfl h0
      · rw [if_neg d]
    have hna : ¬ ls.all upB = true := fun d => by unfold wrongG at hw; rw [if_pos c, if_pos d] at hw; cases hw
    rw [errV_nil c] at C
    rw [hw]
    have HC := hidp C
    have HX := hidp h
    have HN := hidp hn
    have HLS : Hid (∀ (i : Nat) (l : List Int), ls[i]? = some l → l.length ≤ 4611686018427387904) := fun i l hl => by
      have a := flat_take ls hl
      have b := flat_le ls (i + 1)
      have := (wrongLL_zero c).1
      omega
    have HNA := hidp hna
    clear C h hn hls h0 hw c hna
    go_enter Tryd.func20, Tryd.ntmps20
    go_wp2_with (go_at_call 30; refine HC.out.mono ?_; rintro e w' ⟨rfl, rfl⟩)
    go_loopg [14] n (fun g vi wr => ∃ i : Nat, vi = .int .i64 i ∧ i + g = n ∧ Hid (Below w'.heap.size w' wr) ∧ Hid (∀ (j : Nat) (l : List Int), j < i → ls[j]? = some l → upB l = true))
    case atStart => exact ⟨0, rfl, by omega, (show Hid _ from Below.refl _ _), (show Hid _ from fun j l hj => by omega)⟩
    case round =>
      obtain ⟨i, rfl, hg, HB, HO⟩ := hrel
      by_cases hlt : i < n
      · have hlz : (i : Int) < (n : Int) := by omega
        obtain ⟨l, hl⟩ : ∃ l, ls[i]? = some l := ⟨_, List.getElem?_eq_getElem (by have := HN.out; omega)⟩
        obtain ⟨blk, off, q, c1, rfl, hb, c0, hs⟩ := (HX.out.below HB.out).row hl
        have hcon := isSorted_z _ l wr hs (HLS.out i l hl)
        have HLI := hidp hl
        generalize hr' : upB l = r at hcon
        have HR := hidp hr'
        generalize l.length = k at c0 hcon
        have C := hidp hcon
        clear hl hs hr' hcon
        cases r
        · go_wp2_with (go_at_call 34; refine C.out.mono ?_; rintro e w5 ⟨rfl, q5, hw5⟩; have HW5 := hidp hw5; clear hw5)
          go_ret2
          exact ⟨rfl, by rw [HW5.out]; exact below_drewN HB.out _⟩
        · go_wp2_with (go_at_call 34; refine C.out.mono ?_; rintro e w5 ⟨rfl, q5, hw5⟩; have HW5 := hidp hw5; clear hw5)
          go_roundg (n - (i + 1))
          case measure => omega
          case rel =>
            refine ⟨i + 1, by go_num, by omega, (show Hid _ from by show Below _ _ _; rw [HW5.out]; exact below_drewN HB.out _), (show Hid _ from fun j y hj hy => ?_)⟩
            rcases Nat.lt_or_ge j i with z | z
            · exact HO.out j y z hy
            · obtain rfl : j = i := by omega
              rw [HLI.out] at hy; cases hy; exact HR.out
      · exfalso
        refine HNA.out (List.all_eq_true.2 fun l hl => ?_)
        obtain ⟨j, hj⟩ := List.getElem?_of_mem hl
        exact HO.out j l (by have := HN.out; have := (List.getElem?_eq_some_iff.1 hj).1; omega) hj
  · have hw : wrongG ls = wrongLL ls := by unfold wrongG; rw [if_neg c]
    rw [hw]
    rw [errV_ne c] at C ⊢
    have HC := hidp C
    clear C h hn c h0 hw hls
    generalize wrongLL ls = z at HC ⊢
    go_enter Tryd.func20, Tryd.ntmps20
    go_wp2_with (go_at_call 30; refine HC.out.mono ?_; rintro e w' ⟨rfl, rfl⟩)
    go_ret2
    exact ⟨rfl, Below.refl _ _⟩
set_option maxHeartbeats 4000000 in
theorem merge_ok {w : World} {p : Option Addr} {n cap : Nat} {ls : List (List Int)} (h : LLAt w (.slice p n cap) ls) (hbig : n ≤ 9223372036854775807) (h0 : wrongG ls = 0) :
    Calls Tryd.prog 20 #[.slice p n cap] w fun e w' => ∃ v' out, e = .returned (.tuple #[v', .nilIface]) ∧ OwnE EZ w' 0 v' out ∧ (∀ j ∈ v'.ownBlock.toList, w.heap.size ≤ j) ∧ out.Perm ls.flatten ∧ out.Pairwise (· ≤ ·) ∧ Below w.heap.size w w' := by
  have hn := h.len
  obtain ⟨hc, hup⟩ := wrongG_zero h0
  obtain ⟨h60, _⟩ := wrongLL_zero hc
  have hls : ∀ (i : Nat) (l : List Int), ls[i]? = some l → l.length ≤ 4611686018427387904 := fun i l hl => by
    have a := flat_take ls hl
    have b := flat_le ls (i + 1)
    omega
  have C := rcheck_any _ ls w h (by omega) fun i l hl _ => by
    have a := flat_take ls hl
    have b := flat_le ls (i + 1)
    omega
  rw [errV_nil hc] at C
  have HC := hidp C
  have HX := hidp h
  have HN := hidp hn
  have HLS := hidp hls
  have HUP := hidp hup
  clear C h hn hls h0 hc hup
  go_enter Tryd.func20, Tryd.ntmps20
  go_wp2_with (go_at_call 30; refine HC.out.mono ?_; rintro e w' ⟨rfl, rfl⟩)
  go_loopg [14] n (fun g vi wr => ∃ i : Nat, vi = .int .i64 i ∧ i + g = n ∧ Hid (Below w'.heap.size w' wr))
  case atStart => exact ⟨0, rfl, by omega, (show Hid _ from Below.refl _ _)⟩
  case round =>
    obtain ⟨i, rfl, hg, HB⟩ := hrel
    by_cases hlt : i < n
    · have hlz : (i : Int) < (n : Int) := by omega
      obtain ⟨l, hl⟩ : ∃ l, ls[i]? = some l := ⟨_, List.getElem?_eq_getElem (by have := HN.out; omega)⟩
      obtain ⟨blk, off, q, c1, rfl, hb, c0, hs⟩ := (HX.out.below HB.out).row hl
      have hcon := isSorted_z _ l wr hs (HLS.out i l hl)
      rw [HUP.out l (List.mem_of_getElem? hl)] at hcon
      generalize l.length = k at c0 hcon
      have C := hidp hcon
      clear hl hs hcon
      go_wp2_with (go_at_call 34; refine C.out.mono ?_; rintro e w5 ⟨rfl, q5, hw5⟩; have HW5 := hidp hw5; clear hw5)
      go_roundg (n - (i + 1))
      case measure => omega
      case rel => exact ⟨i + 1, by go_num, by omega, (show Hid _ from by show Below _ _ _; rw [HW5.out]; exact below_drewN HB.out _)⟩
    · have hlz : ¬ (i : Int) < (n : Int) := by omega
      have CM := merged_any (HX.out.below HB.out) hbig h60 fun l hl => upB_pair (HUP.out l hl)
      have HCM := hidp CM
      clear CM
      go_wp2_with (go_at_call 35; refine HCM.out.mono ?_; rintro e w5 ⟨v', out, rfl, ho, hge, hp, hs, hb5⟩; have HO := hidp ho; have HGE := hidp hge; have HP := hidp hp; have HS := hidp hs; have HB5 := hidp hb5; clear ho hge hp hs hb5)
      go_ret2
      exact ⟨_, out, rfl, HO.out, fun j hj => Nat.le_trans HB.out.size (HGE.out j hj), HP.out, HS.out, HB.out.trans (HB5.out.mono HB.out.size)⟩
#print axioms make_ok
#print axioms merge_ok
#print axioms merge_bad
end Go.Proofs.YtlaeaeciomkababDoor
