/-
  Lists of items that are read: order.outside, slices.IndexFunc, slices.ContainsFunc and order.Check.
-/
import Derived.Test.YtgihlnbmjoffjaaEnc
namespace Go.Proofs.Ytgihlnbmjoffjaa
open Go.RowKit Go.Sort Go.Proofs

/-- The items xs lie at blk, off. -/
def RdAt (w : World) (blk off : Nat) (xs : Array (Int × Int)) : Prop :=
  blk < w.heap.size ∧ ∀ i, i < xs.size → w.cell? ⟨blk, off + i * 2, none⟩ = some (.int .i64 xs[i]!.1) ∧ w.cell? ⟨blk, off + i * 2 + 1, none⟩ = some (.int .i64 xs[i]!.2)
theorem RdAt.below {w w' : World} {blk off B : Nat} {xs : Array (Int × Int)} (h : RdAt w blk off xs) (hb : Below B w w') (hB : blk < B) : RdAt w' blk off xs :=
  ⟨Nat.lt_of_lt_of_le h.1 hb.size, fun i hi => ⟨(hb.cell (p := ⟨blk, off + i * 2, none⟩) hB).trans (h.2 i hi).1, (hb.cell (p := ⟨blk, off + i * 2 + 1, none⟩) hB).trans (h.2 i hi).2⟩⟩
theorem below_size {w w' : World} (h : Below w.heap.size w w') : w.heap.size ≤ w'.heap.size := h.size
theorem At.rd {w0 W : World} {blk off N : Nat} {d : Array (Int × Int)} (h : At w0 blk off N d W) : RdAt W blk off d :=
  ⟨h.lt, fun i hi => by have := h.cell (i := i) (by rw [← h.size]; exact hi); exact ⟨this.1, this.2.1⟩⟩

/-- A slice value that holds the items xs. -/
def Sl (w : World) (v : Value) (xs : Array (Int × Int)) : Prop :=
  ∃ p cap, v = .slice p xs.size cap ∧ xs.size ≤ cap ∧ (xs.size = 0 ∨ ∃ blk off, p = some ⟨blk, off, none⟩ ∧ RdAt w blk off xs)
theorem Sl.below {w w' : World} {v : Value} {xs : Array (Int × Int)} (h : Sl w v xs) (hb : Below w.heap.size w w') : Sl w' v xs := by
  obtain ⟨p, cap, rfl, hc, h | ⟨blk, off, rfl, hr⟩⟩ := h
  · exact ⟨p, cap, rfl, hc, Or.inl h⟩
  · exact ⟨_, cap, rfl, hc, Or.inr ⟨blk, off, rfl, hr.below hb hr.1⟩⟩
theorem Sl.of_rd {w : World} {blk off : Nat} {xs : Array (Int × Int)} (h : RdAt w blk off xs) {cap : Nat} (hc : xs.size ≤ cap) : Sl w (.slice (some ⟨blk, off, none⟩) xs.size cap) xs := ⟨_, cap, rfl, hc, Or.inr ⟨blk, off, rfl, h⟩⟩
theorem Sl.nil (w : World) : Sl w (.slice none 0 0) #[] := ⟨none, 0, rfl, Nat.le_refl _, Or.inl rfl⟩
theorem Sl.nil' (w : World) {xs : Array (Int × Int)} (h : xs.size = 0) : Sl w (.slice none 0 0) xs := ⟨none, 0, by rw [h], by omega, Or.inl h⟩

/-- Is a number of an item none that may be? -/
def outB (x : Int × Int) : Bool := decide (x.1 < -1000000 ∨ 1000000 < x.1 ∨ x.2 < 0 ∨ 1000000 < x.2)
def anyOut (xs : Array (Int × Int)) : Bool := xs.toList.any outB

set_option maxHeartbeats 1000000 in
theorem outside_any (x y : Int) (w : World) :
    Calls Try.prog 33 #[.agg #[.int .i64 x, .int .i64 y]] w fun e w' => e = .returned (.bool (outB (x, y))) ∧ Below w.heap.size w w' := by
  by_cases h1 : x < -1000000
  · have e : outB (x, y) = true := decide_eq_true (Or.inl h1)
    rw [e]; clear e
    go_enter Try.func33, Try.ntmps33
    go_wp2
    go_ret
    exact ⟨rfl, (Below.refl _ _).alloc (Nat.le_refl _) _⟩
  by_cases h2 : 1000000 < x
  · have e : outB (x, y) = true := decide_eq_true (Or.inr (Or.inl h2))
    rw [e]; clear e
    go_enter Try.func33, Try.ntmps33
    go_wp2
    go_ret
    exact ⟨rfl, (Below.refl _ _).alloc (Nat.le_refl _) _⟩
  by_cases h3 : y < 0
  · have e : outB (x, y) = true := decide_eq_true (Or.inr (Or.inr (Or.inl h3)))
    rw [e]; clear e
    go_enter Try.func33, Try.ntmps33
    go_wp2
    go_ret
    exact ⟨rfl, (Below.refl _ _).alloc (Nat.le_refl _) _⟩
  by_cases h4 : 1000000 < y
  · have e : outB (x, y) = true := decide_eq_true (Or.inr (Or.inr (Or.inr h4)))
    rw [e]; clear e
    go_enter Try.func33, Try.ntmps33
    go_wp2
    go_ret
    exact ⟨rfl, (Below.refl _ _).alloc (Nat.le_refl _) _⟩
  · have e : outB (x, y) = false := decide_eq_false (by omega)
    rw [e]; clear e
    go_enter Try.func33, Try.ntmps33
    go_wp2
    go_ret
    exact ⟨rfl, (Below.refl _ _).alloc (Nat.le_refl _) _⟩

theorem anyOut_true {xs : Array (Int × Int)} {k : Nat} (hk : k < xs.size) (h : outB xs[k]! = true) : anyOut xs = true := by
  unfold anyOut
  rw [List.any_eq_true]
  exact ⟨xs[k]!, by rw [getElem!_pos xs k hk]; simp, h⟩
theorem anyOut_false {xs : Array (Int × Int)} (h : ∀ i, i < xs.size → outB xs[i]! = false) : anyOut xs = false := by
  unfold anyOut
  rw [List.any_eq_false]
  intro x hx
  obtain ⟨i, hi, rfl⟩ := List.getElem_of_mem hx
  rw [getD_toList]
  simp [h i (by simpa using hi)]

set_option maxHeartbeats 1000000 in
theorem indexFunc_none (p : Option Addr) (cap : Nat) (w : World) :
    Calls Try.prog 44 #[.slice p 0 cap, .func (.func 33) #[] #[]] w fun e w' => e = .returned (.int .i64 (-1)) ∧ w' = w := by
  go_enter Try.func44, Try.ntmps44
  go_wp2
  go_loop [8] (fun i => i = .int .i64 0) (fun _ => 0)
  case atStart => rfl
  case round =>
    subst hrel
    go_wp2
    go_ret
    exact ⟨rfl, rfl⟩

set_option maxHeartbeats 2000000 in
theorem indexFunc_some (blk off cap n : Nat) (xs : Array (Int × Int)) (w : World) (hx : RdAt w blk off xs) (hn : Hid (xs.size = n)) (hsz : n ≤ 60) :
    Calls Try.prog 44 #[.slice (some ⟨blk, off, none⟩) n cap, .func (.func 33) #[] #[]] w fun e w' =>
      ∃ r : Int, e = .returned (.int .i64 r) ∧ (decide (0 ≤ r) = anyOut xs) ∧ Below w.heap.size w w' := by
  have HX : Aside _ := hx
  clear hx
  go_enter Try.func44, Try.ntmps44
  go_wp2
  go_loopg [8] n (fun g vi wr => ∃ i : Nat, vi = .int .i64 i ∧ i + g = n ∧ Below w.heap.size w wr ∧ Aside (∀ j, j < i → outB xs[j]! = false))
  case atStart => exact ⟨0, rfl, by omega, Below.refl _ _, (show Aside _ from fun j hj => by omega)⟩
  case round =>
    obtain ⟨i, rfl, hg, hb, HO⟩ := hrel
    by_cases hlt : i < n
    · have hlz : (i : Int) < (n : Int) := by omega
      obtain ⟨x, y, hxy⟩ : ∃ x y, xs[i]! = (x, y) := ⟨_, _, rfl⟩
      have hr := (RdAt.below HX.out hb HX.out.1).2 i (by rw [hn.out]; exact hlt)
      rw [hxy] at hr
      obtain ⟨c0, c1⟩ := hr
      have HXY : Hid _ := hxy
      clear hxy
      have hcon := outside_any x y wr
      generalize hr' : outB (x, y) = r at hcon
      have HR : Hid _ := hr'
      clear hr'
      cases r
      · go_wp2_with (go_at_call 33; refine hcon.mono ?_; rintro e w' ⟨rfl, hb2⟩)
        go_roundg (n - (i + 1))
        case measure => omega
        case rel =>
          refine ⟨i + 1, by go_num, by omega, hb.trans (hb2.mono hb.size), (show Aside _ from fun j hj => ?_)⟩
          rcases Nat.lt_or_ge j i with q | q
          · exact HO.out j q
          · obtain rfl : j = i := by omega
            rw [HXY.out]; exact HR.out
      · go_wp2_with (go_at_call 33; refine hcon.mono ?_; rintro e w' ⟨rfl, hb2⟩)
        go_ret
        refine ⟨_, rfl, ?_, hb.trans (hb2.mono hb.size)⟩
        rw [anyOut_true (k := i) (by rw [hn.out]; exact hlt) (by rw [HXY.out]; exact HR.out)]
        exact decide_eq_true (by omega)
    · have hlz : ¬ (i : Int) < (n : Int) := by omega
      go_wp2
      go_ret
      refine ⟨_, rfl, ?_, hb⟩
      rw [anyOut_false fun j hj => HO.out j (by have := hn.out; omega)]
      decide

theorem containsFunc_any (v : Value) (xs : Array (Int × Int)) (w : World) (h : Sl w v xs) (hsz : xs.size ≤ 60) :
    Calls Try.prog 32 #[v, .func (.func 33) #[] #[]] w fun e w' => e = .returned (.bool (anyOut xs)) ∧ Below w.heap.size w w' := by
  obtain ⟨p, cap, rfl, hcap, h | ⟨blk, off, rfl, hr⟩⟩ := h
  · have e : anyOut xs = false := anyOut_false fun i hi => by omega
    rw [h] at hcap ⊢
    rw [e]
    clear e
    go_enter Try.func32, Try.ntmps32
    go_wp2_with (go_at_call 44; refine (indexFunc_none p cap _).mono ?_; rintro e w' ⟨rfl, rfl⟩)
    go_ret
    exact ⟨rfl, Below.refl _ _⟩
  · have hcon := indexFunc_some blk off cap xs.size xs w hr rfl hsz
    generalize xs.size = n at hcon hcap
    generalize anyOut xs = r at hcon ⊢
    clear hr
    go_enter Try.func32, Try.ntmps32
    go_wp2_with (go_at_call 44; refine hcon.mono ?_; rintro e w' ⟨q, rfl, hq, hb⟩)
    go_ret
    exact ⟨rfl, hb⟩

/-- What is wrong with items: 4 there are too many, 1 a number is none that may be, 0 nothing. -/
def wrong (xs : Array (Int × Int)) : Nat := if 60 < xs.size then 4 else if anyOut xs then 1 else 0
/-- .. as an error. -/
def errV (k : Nat) : Value := if k = 0 then .nilIface else .iface 39 (.int .i64 k)

theorem check_any (v : Value) (xs : Array (Int × Int)) (w : World) (h : Sl w v xs) (hbig : xs.size ≤ 9223372036854775807) :
    Calls Try.prog 15 #[v] w fun e w' => e = .returned (errV (wrong xs)) ∧ Below w.heap.size w w' := by
  by_cases hs : 60 < xs.size
  · have e : errV (wrong xs) = .iface 39 (.int .i64 4) := by unfold wrong; rw [if_pos hs]; rfl
    rw [e]; clear e
    obtain ⟨p, cap, rfl, _⟩ := h
    have hz : (60 : Int) < (xs.size : Int) := by omega
    go_enter Try.func15, Try.ntmps15
    go_wp2
    go_ret
    exact ⟨rfl, Below.refl _ _⟩
  · have hcon := containsFunc_any v xs w h (by omega)
    have e : errV (wrong xs) = if anyOut xs then .iface 39 (.int .i64 1) else .nilIface := by
      unfold wrong; rw [if_neg hs]; cases anyOut xs <;> rfl
    rw [e]; clear e
    generalize anyOut xs = r at hcon ⊢
    obtain ⟨p, cap, rfl, _⟩ := h
    have hz : ¬ (60 : Int) < (xs.size : Int) := by omega
    cases r
    · go_enter Try.func15, Try.ntmps15
      go_wp2_with (go_at_call 32; refine hcon.mono ?_; rintro e w' ⟨rfl, hb⟩)
      go_ret
      exact ⟨rfl, hb⟩
    · go_enter Try.func15, Try.ntmps15
      go_wp2_with (go_at_call 32; refine hcon.mono ?_; rintro e w' ⟨rfl, hb⟩)
      go_ret
      exact ⟨rfl, hb⟩
end Go.Proofs.Ytgihlnbmjoffjaa
