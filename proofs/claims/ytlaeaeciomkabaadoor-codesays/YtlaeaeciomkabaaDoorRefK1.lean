/-
  The document's codes: what is wrong with lengths (Long).
-/
import Derived.Test.YtlaeaeciomkabaaDoorRefH1
import Derived.Test.YtlaeaeciomkabaaDoorCoK
import Derived.Test.YtlaeaeciomkabaaDoorAppE
namespace Go.Proofs.YtlaeaeciomkabaaDoor
open Go.RowKit Go.Sort Go.Proofs

theorem in_out (n top : Int) (w : World) : Calls Tryd.prog 25 #[.int .i64 n, .int .i64 0, .int .i64 top] w fun e w' => e = .returned (.bool (!outC top n)) ∧ w = w' := by
  have := in_any n 0 top w
  rw [inB_out] at this
  exact this.mono fun e w' h => ⟨h.1, h.2.symm⟩
def someL (l : List Int) : List Int := l.filter fun x => decide (0 < x)
theorem someL_take {l : List Int} {i : Nat} {x : Int} (h : l[i]? = some x) : someL (l.take (i + 1)) = someL (l.take i) ++ (if 0 < x then [x] else []) := by
  obtain ⟨hi, e⟩ := List.getElem?_eq_some_iff.1 h
  unfold someL
  rw [List.take_succ_eq_append_getElem hi, List.filter_append, e]
  by_cases h0 : 0 < x
  · rw [if_pos h0, List.filter_cons_of_pos (by simpa using h0)]; rfl
  · rw [if_neg h0, List.filter_cons_of_neg (by simpa using h0)]; rfl
theorem someL_le (l : List Int) : (someL l).length ≤ l.length := List.length_filter_le _ _
theorem room_tak : ∀ {l : List Int}, (∀ x ∈ l, 0 ≤ x ∧ x ≤ 20) → roomM 20 (someL l) = takK l
  | [], _ => by unfold takK natL someL roomM roomW; simp [topC_nil]
  | a :: t, h => by
    have ih := room_tak (l := t) fun x hx => h x (List.mem_cons_of_mem _ hx)
    obtain ⟨h0, h1⟩ := h a List.mem_cons_self
    have e : takK (a :: t) = takK t + (if 0 < a.toNat ∧ a.toNat ≤ 20 then 2 ^ (20 - a.toNat) else 0) := by
      show topC (natL (a :: t)) 20 = _
      rw [show natL (a :: t) = a.toNat :: natL t from rfl, topC_cons]; rfl
    rw [e]
    by_cases hz : 0 < a
    · rw [if_pos ⟨by omega, by omega⟩, ← ih]
      unfold someL
      rw [List.filter_cons_of_pos (by simpa using hz)]
      have : roomM 20 (a :: t.filter fun x => decide (0 < x)) = 2 ^ (20 - a.toNat) + roomM 20 (t.filter fun x => decide (0 < x)) := by simp [roomM, roomW]
      rw [this, Nat.add_comm]
    · rw [if_neg (by omega), ← ih]
      unfold someL
      rw [List.filter_cons_of_neg (by simpa using hz)]; rfl
theorem good_some {l : List Int} (h : ∀ x ∈ l, 0 ≤ x ∧ x ≤ 20) : goodM 20 (someL l) = true := by
  unfold goodM
  rw [List.all_eq_true]
  intro x hx
  have := h x (List.mem_filter.1 hx).1
  have e : outC 20 x = false := outC_of this.1 this.2
  show (!outC 20 x) = true
  rw [e]; rfl
set_option maxHeartbeats 8000000 in
set_option maxRecDepth 20000 in
theorem refLong_any {w : World} {v : Value} {l : List Int} (h : SlE EZ w v l) (hbig : l.length ≤ 9223372036854775807) :
    Calls Tryd.prog 9 #[v] w fun e w' => e = .returned (.int .i64 (wrongK l)) ∧ Below w.heap.size w w' := by
  obtain ⟨p, cap, rfl, _⟩ := id h
  obtain ⟨n, hn⟩ : ∃ n, l.length = n := ⟨_, rfl⟩
  rw [hn] at h hbig ⊢
  have HL := hidp h
  have HN := hidp hn
  clear h hn
  by_cases hfull : 40 < n
  · have hz2 : (40 : Int) < (n : Int) := by omega
    have HF : Hid (wrongK l = 4) := wrongK_full (by rw [HN.out]; exact hfull)
    go_enter Tryd.func9, Tryd.ntmps9
    go_wp2
    go_ret
    exact ⟨by rw [HF.out]; rfl, Below.refl _ _⟩
  have hz2 : ¬ (40 : Int) < (n : Int) := by omega
  have h40 : n ≤ 40 := by omega
  have HO1 : Hid (OwnE EZ w w.heap.size (.slice none 0 0) (someL (l.take 0))) := OwnE.nil EZ w w.heap.size
  have HB1 : Hid (Below w.heap.size w w) := Below.refl _ _
  clear hfull hbig
  go_enter Tryd.func9, Tryd.ntmps9
  go_wp2
  go_loopg [3, 4] n (fun g vs vi wr => ∃ (i k4 c4 : Nat) (p4 : Option Addr), vs = .slice p4 k4 c4 ∧ vi = .int .i64 i ∧ i + g = n ∧ k4 ≤ i ∧ Hid (k4 = (someL (l.take i)).length) ∧ Hid (OwnE EZ wr w.heap.size (.slice p4 k4 c4) (someL (l.take i))) ∧ Hid (Below w.heap.size w wr) ∧ Hid (∀ (j : Nat) (x : Int), j < i → l[j]? = some x → outC 20 x = false))
  case atStart => exact ⟨0, 0, 0, none, rfl, rfl, by omega, Nat.le_refl _, (show Hid _ from rfl), HO1, HB1, (show Hid _ from fun j x hj => by omega)⟩
  case round =>
    obtain ⟨i, k4, c4, p4, rfl, rfl, hg, hk4, HK, HO, HBW, HJ⟩ := hrel
    by_cases hlt : i < n
    · have hlz : (i : Int) < (n : Int) := by omega
      obtain ⟨x, hx⟩ : ∃ x, l[i]? = some x := ⟨_, List.getElem?_eq_getElem (by have := HN.out; omega)⟩
      obtain ⟨b1, o1, rfl, _, _, hr1⟩ := (HL.out.below HBW.out).some (by omega)
      have c0 := hr1.int hx
      have HX := hidp hx
      have C := in_out x 20 wr
      have hst := someL_take hx
      by_cases ho : outC 20 x = true
      · rw [ho] at C
        have HC := hidp C
        have HF : Hid (wrongK l = 1) := wrongK_range (by have := HN.out; omega) hx ho
        clear hx hr1 C ho hst
        go_wp2_with (go_at_call 25; refine HC.out.mono ?_; rintro e w2 ⟨rfl, hw2⟩; subst hw2)
        go_ret
        exact ⟨by rw [HF.out]; rfl, HBW.out⟩
      · have ho' : outC 20 x = false := by simpa using ho
        rw [ho'] at C
        have HC := hidp C
        have MORE : Hid (∀ (j : Nat) (y : Int), j < i + 1 → l[j]? = some y → outC 20 y = false) := fun j y hj hy => by
          rcases Nat.lt_or_ge j i with z | z
          · exact HJ.out j y z hy
          · obtain rfl : j = i := by omega
            rw [HX.out] at hy; cases hy; exact ho'
        clear hx hr1 C ho ho'
        by_cases hp : 0 < x
        · have hpz : decide (0 < x) = true := decide_eq_true hp
          rw [if_pos hp] at hst
          have HST := hidp hst
          have HSZ : Hid ((someL (l.take i)).length ≤ 100000) := by show _ ≤ _; rw [← HK.out]; omega
          have HOA := hidp (HO.out.alloc (.cells #[.int .i64 x] 3))
          have HNEW := hidp (box_one wr x)
          have HBS : Hid (w.heap.size ≤ (wr.alloc (.cells #[.int .i64 x] 3)).heap.size) := by show _ ≤ _; have := HBW.out.size; simp; omega
          have HBA : Hid (Below w.heap.size w (wr.alloc (.cells #[.int .i64 x] 3))) := HBW.out.alloc HBW.out.size _
          clear hst
          go_wp2_with (first | (go_at_call 25; refine HC.out.mono ?_; rintro e w2 ⟨rfl, hw2⟩; subst hw2) | (at_builtin; refine wpList_appendE EZ rfl (.tmp 27) (.tmp 32) rfl w.heap.size _ (someL (l.take i)) x ⟨wr.heap.size, 0, none⟩ 1 rfl HOA.out rfl HNEW.out HSZ.out HBS.out ?_; intro v3 w3 a1 a2 a3; have hb3 := HBA.out.trans (below_ownE HOA.out a2 (Nat.le_refl _) HBS.out); obtain ⟨p9, k9, hv⟩ := OwnE.form a1; rw [List.length_append, List.length_singleton, ← HK.out] at hv; subst hv; have HO3 := hidp a1; have HB3 := hidp hb3; clear hb3 a1 a2 a3))
          go_roundg (n - (i + 1))
          case measure => omega
          case rel => exact ⟨i + 1, k4 + 1, k9, p9, rfl, by go_num, by omega, by omega, (show Hid _ from by show _ = _; rw [HST.out, List.length_append, ← HK.out]; rfl), (show Hid _ from by rw [HST.out]; exact HO3.out), HB3, MORE⟩
        · have hpz : decide (0 < x) = false := decide_eq_false hp
          rw [if_neg hp, List.append_nil] at hst
          have HST := hidp hst
          clear hst
          go_wp2_with (go_at_call 25; refine HC.out.mono ?_; rintro e w2 ⟨rfl, hw2⟩; subst hw2)
          go_roundg (n - (i + 1))
          case measure => omega
          case rel => exact ⟨i + 1, k4, c4, p4, rfl, by go_num, by omega, by omega, (show Hid _ from by rw [HST.out]; exact HK.out), (show Hid _ from by rw [HST.out]; exact HO.out), HBW, MORE⟩
    · have hlz : ¬ (i : Int) < (n : Int) := by omega
      have hta : l.take i = l := List.take_of_length_le (by have := HN.out; omega)
      rw [hta] at HK HO
      have hall : ∀ x ∈ l, 0 ≤ x ∧ x ≤ 20 := fun x hx => by
        obtain ⟨j, hj⟩ := List.getElem?_of_mem hx
        exact outC_no (HJ.out j x (by have := HN.out; have := (List.getElem?_eq_some_iff.1 hj).1; omega) hj)
      have hsl := HO.out.sl
      rw [HK.out] at hsl
      have C := room_any (most := 20) hsl (by have := someL_le l; have := HN.out; omega) (by decide)
      obtain ⟨e1, e2⟩ := rm_good (good_some hall)
      rw [e1, e2, room_tak hall, ← HK.out] at C
      have hwk : wrongK l = if 1048576 < takK l then 3 else 0 := by
        unfold wrongK
        rw [if_neg (by have := HN.out; omega), if_neg (any_none fun j x hj => HJ.out j x (by have := HN.out; have := (List.getElem?_eq_some_iff.1 hj).1; omega) hj)]
      obtain ⟨t, ht⟩ : ∃ t, takK l = t := ⟨_, rfl⟩
      rw [ht] at C hwk
      have HC : Hid (Calls Tryd.prog 26 #[.slice p4 k4 c4, .int .i64 20] wr fun e w' => e = .returned (.tuple #[.int .i64 (t : Int), .int .i64 0]) ∧ w' = wr) := C
      by_cases hbig : 1048576 < t
      · have hbz : (1048576 : Int) < (t : Int) := by omega
        rw [if_pos hbig] at hwk
        have HF := hidp hwk
        clear hta hall hsl C e1 e2 hwk ht
        go_wp2_with (go_at_call 26; refine HC.out.mono ?_; rintro e w2 ⟨rfl, hw2⟩; have hw3 := hw2.symm; subst hw3; clear hw2)
        go_ret
        exact ⟨by rw [HF.out]; rfl, HBW.out⟩
      · have hbz : ¬ (1048576 : Int) < (t : Int) := by omega
        rw [if_neg hbig] at hwk
        have HF := hidp hwk
        clear hta hall hsl C e1 e2 hwk ht
        go_wp2_with (go_at_call 26; refine HC.out.mono ?_; rintro e w2 ⟨rfl, hw2⟩; have hw3 := hw2.symm; subst hw3; clear hw2)
        go_ret
        exact ⟨by rw [HF.out]; rfl, HBW.out⟩
#print axioms refLong_any
end Go.Proofs.YtlaeaeciomkabaaDoor
