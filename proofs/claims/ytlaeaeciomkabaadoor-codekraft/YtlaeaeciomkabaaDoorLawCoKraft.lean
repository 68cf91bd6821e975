/-
  The law CodeKraft, walked: there are codes just where there is room.
-/
import Derived.Test.YtlaeaeciomkabaaDoorCoFact
import Derived.Test.YtlaeaeciomkabaaDoorTold
namespace Go.Proofs.YtlaeaeciomkabaaDoor
open Go.RowKit Go.Sort Go.Proofs

theorem room_tak : ∀ (l : List Int), (∀ x ∈ l, 0 < x ∧ x ≤ 20) → roomI l = 1048576 * takK l
  | [], _ => by
    show 0 = 1048576 * topC [] 20
    rw [topC_nil]
  | a :: t, h => by
    obtain ⟨h1, h2⟩ := h a (by simp)
    have ih := room_tak t fun x hx => h x (by simp [hx])
    have e1 : roomI (a :: t) = 2 ^ (40 - a.toNat) + roomI t := by simp [roomI, roomW]
    have hc : 0 < a.toNat ∧ a.toNat ≤ 20 := by omega
    have e2 : takK (a :: t) = takK t + 2 ^ (20 - a.toNat) := by
      show topC (a.toNat :: natL t) 20 = _
      rw [topC_cons, if_pos hc]; rfl
    have e3 : 2 ^ (40 - a.toNat) = 1048576 * 2 ^ (20 - a.toNat) := by
      rw [show 40 - a.toNat = 20 + (20 - a.toNat) by omega, Nat.pow_add]
    rw [e1, e2, e3, ih, Nat.mul_add, Nat.add_comm]
theorem wrongK_small {l : List Int} (h : l.length ≤ 40) (hl : ∀ x ∈ l, 0 < x ∧ x ≤ 20) : wrongK l = if roomI l ≤ 1099511627776 then 0 else 3 := by
  have hr := room_tak l hl
  have ho : ∀ (i : Nat) (x : Int), l[i]? = some x → outC 20 x = false := fun i x hx => by
    have := hl x (List.mem_of_getElem? hx)
    exact outC_of (by omega) (by omega)
  by_cases c : takK l ≤ 1048576
  · have c2 : roomI l ≤ 1099511627776 := by rw [hr]; omega
    rw [if_pos c2, wrongK_ok h ho c]
  · have c2 : ¬ roomI l ≤ 1099511627776 := by rw [hr]; omega
    rw [if_neg c2, wrongK_shape h ho (by omega)]
set_option maxHeartbeats 16000000 in
set_option maxRecDepth 20000 in
theorem codeKraft_any (v : Value) (l : List Int) (w : World) (h : SlE EZ w v l) (hbig : l.length ≤ 9223372036854775807) (hT : Tz w) (hG : Glob w) :
    Calls Tryd.prog 5 #[v] w fun e w' => e = .returned (.bool true) ∧ Below w.heap.size w w' := by
  obtain ⟨p, cap, rfl, _⟩ := id h
  have C0 := hidp (codeFact_any w hT)
  obtain ⟨n, hn⟩ : ∃ n, l.length = n := ⟨_, rfl⟩
  rw [hn] at h ⊢
  have HX := hidp h
  have HT := hidp hT
  have HG := hidp hG
  have HN := hidp hn
  have HBIG := hidp hbig
  clear h hT hG hn hbig
  go_enter Tryd.func5, Tryd.ntmps5
  go_wp2_with fail
  refine C0.out.mono ?_
  rintro e w1 ⟨rfl, hb1⟩
  have HB1 := hidp hb1
  have HX1 := hidp (HX.out.below hb1)
  have HT1 := hidp (HT.out.below hb1)
  have HG1 := hidp (HG.out.below hb1)
  clear hb1 C0 HX HT HG
  by_cases h0 : wrongC l 40 = 0
  · have c1 := fits_ok HX1.out h0
    obtain ⟨_, h40, hrng⟩ := wrongC_zero h0
    have HRNG := hidp hrng
    have hn40 : n ≤ 40 := by rw [← HN.out]; exact h40
    have HROOM : Hid ((∀ x ∈ l, 0 < x ∧ x ≤ 20) → wrongK l = if roomI l ≤ 1099511627776 then 0 else 3) := wrongK_small h40
    obtain ⟨b, hb⟩ : ∃ b, decide (roomI l ≤ 1099511627776) = b := ⟨_, rfl⟩
    rw [hb] at c1
    generalize decide (roomI l = 1099511627776) = b2 at c1
    have C1 := hidp c1
    have HBB := hidp hb
    clear c1 h0 h40 hb hrng
    go_wp2_with fail
    refine C1.out.mono ?_
    rintro e wz ⟨rfl, hw⟩
    subst hw
    go_wp2
    go_loopg [7] n (fun gi vi wr => ∃ i : Nat, vi = .int .i64 i ∧ i + gi = n ∧ wz = wr ∧ Hid (∀ (j : Nat) (x : Int), j < i → l[j]? = some x → 0 < x ∧ x ≤ 20))
    case atStart => exact ⟨0, rfl, by omega, rfl, (show Hid _ from fun j x hj => by omega)⟩
    case round =>
      obtain ⟨i, rfl, hgi, hw, HO⟩ := hrel
      subst hw
      by_cases hin : i < n
      · have hiz : (i : Int) < (n : Int) := by omega
        obtain ⟨x, hx⟩ : ∃ x, l[i]? = some x := ⟨_, List.getElem?_eq_getElem (by have := HN.out; omega)⟩
        obtain ⟨b1, o1, rfl, _, _, hr1⟩ := HX1.out.some (by omega)
        have c0 := hr1.int hx
        have HXX := hidp hx
        have HR1 := hidp hr1
        clear hx hr1
        by_cases hx0 : x = 0
        · subst hx0
          go_wp2
          go_ret
          exact ⟨rfl, HB1.out⟩
        · have hxz : (x == 0) = false := beq_eq_false_iff_ne.2 hx0
          by_cases hx20 : 20 < x
          · have hxd : decide (20 < x) = true := decide_eq_true hx20
            go_wp2
            go_ret
            exact ⟨rfl, HB1.out⟩
          · have hxd : decide (20 < x) = false := decide_eq_false hx20
            by_cases hxn : x < 0
            · exfalso
              have := (HRNG.out x (List.mem_of_getElem? HXX.out)).1
              omega
            · have HM : Hid (∀ (j : Nat) (y : Int), j < i + 1 → l[j]? = some y → 0 < y ∧ y ≤ 20) := fun j y hj hy => by
                rcases Nat.lt_or_ge j i with z | z
                · exact HO.out j y z hy
                · obtain rfl : j = i := by omega
                  rw [HXX.out] at hy; cases hy; omega
              go_wp2
              go_roundg (n - (i + 1))
              case measure => omega
              case rel => exact ⟨i + 1, by go_num, by omega, rfl, HM⟩
      · have hiz : ¬ (i : Int) < (n : Int) := by omega
        have hall : ∀ x ∈ l, 0 < x ∧ x ≤ 20 := fun x hx => by
          obtain ⟨j, hj⟩ := List.getElem?_of_mem hx
          exact HO.out j x (by have := HN.out; have := (List.getElem?_eq_some_iff.1 hj).1; omega) hj
        have hk := HROOM.out hall
        cases hbv : b with
        | true =>
          have hr : roomI l ≤ 1099511627776 := of_decide_eq_true (HBB.out.trans hbv)
          rw [if_pos hr] at hk
          have c2 := make_ok HX1.out hk HT1.out
          rw [HN.out] at c2
          have C2 := hidp c2
          subst hbv
          clear c2 hr hk hall HO HROOM
          go_wp2_with fail
          refine C2.out.mono ?_
          rintro e w2 ⟨g, rfl, hs, hb2⟩
          have HB2 := hidp (HB1.out.trans (hb2.mono HB1.out.size))
          clear hs hb2 C2
          go_wp2
          go_ret
          exact ⟨rfl, HB2.out⟩
        | false =>
          have hr : ¬ roomI l ≤ 1099511627776 := of_decide_eq_false (HBB.out.trans hbv)
          rw [if_neg hr] at hk
          have c2 := make_bad HX1.out HBIG.out (by rw [hk]; decide)
          rw [hk] at c2
          have C2 := hidp c2
          have c3 := error_any 3 3 wz HG1.out
          rw [errC_ne (by decide)] at c3
          have C3 := hidp c3
          subst hbv
          clear c2 c3 hr hk hall HO HROOM
          go_wp2_with (first | (go_at_call 11; refine C2.out.mono ?_; rintro e w2 ⟨rfl, hw2⟩; rw [hw2]; clear hw2) | (go_at_call 12; refine C3.out.mono ?_; rintro e w3 ⟨rfl, hb3⟩; have HB3 := hidp hb3; clear hb3))
          go_ret
          exact ⟨rfl, HB1.out.trans (HB3.out.mono HB1.out.size)⟩
  · have c1 := fits_bad HX1.out HBIG.out h0
    generalize wrongC l 40 = z at c1
    have C1 := hidp c1
    clear c1 h0
    go_wp2_with fail
    refine C1.out.mono ?_
    rintro e w2 ⟨rfl, rfl⟩
    go_wp2
    go_ret
    exact ⟨rfl, HB1.out⟩
#print axioms codeKraft_any
end Go.Proofs.YtlaeaeciomkabaaDoor
