/-
  order.Sorted: do keys not fall? order.Inversions: how many pairs stand the wrong way round.
-/
import Derived.Test.YtakkjgcehmpijaaDoorRd
import Derived.Test.YtakkjgcehmpijaaDoorByKey
namespace Go.Proofs.YtakkjgcehmpijaaDoor
open Go.RowKit Go.Sort Go.Proofs

theorem below_grown (B : Nat) (w : World) (n : Nat) (os : Array Obj) (hB : B ≤ w.heap.size) : Below B w (grow (w.drewN n) os) :=
  ⟨rfl, rfl, rfl, by rw [size_grow]; exact Nat.le_add_right _ _, fun k hk => by show (w.heap ++ os)[k]? = _; rw [Array.getElem?_append_left (by omega)]⟩

/-- Do keys not fall? -/
def srtB (xs : Array (Int × Int)) : Bool := (List.range (xs.size - 1)).all fun i => decide (xs[i]!.1 ≤ xs[i + 1]!.1)
theorem srtB_false {xs : Array (Int × Int)} {i : Nat} (hi : i + 1 < xs.size) (h : xs[i + 1]!.1 < xs[i]!.1) : srtB xs = false := by
  unfold srtB
  rw [List.all_eq_false]
  exact ⟨i, List.mem_range.2 (by omega), by simp; exact h⟩
theorem srtB_true {xs : Array (Int × Int)} (h : ∀ i, i + 1 < xs.size → xs[i]!.1 ≤ xs[i + 1]!.1) : srtB xs = true := by
  unfold srtB
  rw [List.all_eq_true]
  intro i hi
  exact decide_eq_true (h i (by have := List.mem_range.1 hi; omega))
theorem srtB_step {xs : Array (Int × Int)} (h : srtB xs = true) {i : Nat} (hi : i + 1 < xs.size) : xs[i]!.1 ≤ xs[i + 1]!.1 := by
  unfold srtB at h
  rw [List.all_eq_true] at h
  exact of_decide_eq_true (h i (List.mem_range.2 (by omega)))
theorem srtB_srt {xs : Array (Int × Int)} (h : srtB xs = true) : Srt 0 xs.size xs := by
  have key : ∀ n i, i + n < xs.size → xs[i]!.1 ≤ xs[i + n]!.1 := by
    intro n
    induction n with
    | zero => intro i _; exact Int.le_refl _
    | succ n ih => intro i hi; have := ih i (by omega); have := srtB_step h (i := i + n) (by omega); rw [show i + (n + 1) = i + n + 1 by omega]; omega
  intro i j _ h2 h3
  have := key (j - i) i (by omega)
  rwa [show i + (j - i) = j by omega] at this
theorem srt_srtB {xs : Array (Int × Int)} (h : Srt 0 xs.size xs) : srtB xs = true := srtB_true fun i hi => h i (i + 1) (by omega) (by omega) hi

theorem ret_b {a b : Bool} (h : a = b) : Ending.returned (.bool b) = .returned (.bool a) := by rw [h]

set_option maxHeartbeats 1000000 in
theorem isSorted_none (p : Option Addr) (cap : Nat) (w : World) :
    Calls Tryd.prog 54 #[.slice p 0 cap, .func (.func 30) #[] #[]] w fun e w' => e = .returned (.bool true) ∧ w' = w := by
  go_enter Tryd.func54, Tryd.ntmps54
  go_wp2
  go_loop [5] (fun i => i = .int .i64 (-1)) (fun _ => 0)
  case atStart => rfl
  case round =>
    subst hrel
    go_wp2
    go_ret
    exact ⟨rfl, rfl⟩

set_option maxHeartbeats 2000000 in
theorem isSorted_some (blk off cap n : Nat) (xs : Array (Int × Int)) (w : World) (hx : RdAt w blk off xs) (hn : Hid (xs.size = n)) (h0 : 0 < n) (hsz : n ≤ 60) :
    Calls Tryd.prog 54 #[.slice (some ⟨blk, off, none⟩) n cap, .func (.func 30) #[] #[]] w fun e w' =>
      e = .returned (.bool (srtB xs)) ∧ Below w.heap.size w w' := by
  have HX : Aside _ := hx
  clear hx
  have mixed : Tryd.prog.follows .mixedOrders = true := by kernel_rfl
  have z0 : (0 : Int) < (n : Int) := by omega
  go_enter Tryd.func54, Tryd.ntmps54
  go_wp2
  go_loopg [5] n (fun g vi wr => ∃ i : Nat, vi = .int .i64 i ∧ i < n ∧ i ≤ g ∧ Below w.heap.size w wr ∧ Aside (∀ j, i ≤ j → j + 1 < n → xs[j]!.1 ≤ xs[j + 1]!.1))
  case atStart => exact ⟨n - 1, by go_num, by omega, by omega, Below.refl _ _, (show Aside _ from fun j h1 h2 => by omega)⟩
  case round =>
    obtain ⟨i, rfl, hin, hg, hb, HO⟩ := hrel
    by_cases hlt : 0 < i
    · obtain ⟨ip, rfl⟩ : ∃ ip, i = ip + 1 := ⟨i - 1, by omega⟩
      have hlz : (0 : Int) < (ip : Int) + 1 := by omega
      have hwp : IntKind.i64.wrap (ip : Int) = (ip : Int) := by rw [IntKind.wrap_i64]; omega
      have b1 : (ip : Int) + 1 < (n : Int) := by omega
      have b2 : (ip : Int) < (n : Int) := by omega
      have p0 : (0 : Int) ≤ (ip : Int) + 1 := by omega
      have e0 : ((ip : Int) + 1).toNat = ip + 1 := by omega
      have hrd := RdAt.below HX.out hb HX.out.1
      obtain ⟨x, hx⟩ : ∃ x, xs[ip + 1]! = x := ⟨_, rfl⟩
      obtain ⟨y, hy⟩ : ∃ y, xs[ip]! = y := ⟨_, rfl⟩
      have hcx := hrd.2 (ip + 1) (by rw [hn.out]; omega)
      have hcy := hrd.2 ip (by rw [hn.out]; omega)
      rw [hx] at hcx
      rw [hy] at hcy
      have cx0 := cell_grown (a := ⟨blk, off + (ip + 1) * 2, none⟩) hrd.1 hcx.1
      have cx1 := cell_grown (a := ⟨blk, off + (ip + 1) * 2 + 1, none⟩) hrd.1 hcx.2
      have cy0 := cell_grown (a := ⟨blk, off + ip * 2, none⟩) hrd.1 hcy.1
      have cy1 := cell_grown (a := ⟨blk, off + ip * 2 + 1, none⟩) hrd.1 hcy.2
      have HXX : Hid _ := hx
      have HYY : Hid _ := hy
      clear hx hy hcx hcy hrd
      have hcg := fun n os => byKey_any x y (grow (wr.drewN n) os)
      have hcn := cmpI_neg x.1 y.1
      generalize cmpI x.1 y.1 = r at hcg hcn
      have HCN : Hid _ := hcn
      have HCG : Aside _ := hcg
      clear hcn hcg
      by_cases hr : r < 0
      · have ef : srtB xs = false := srtB_false (i := ip) (by rw [hn.out]; omega) (by rw [HXX.out, HYY.out]; exact HCN.out.1 hr)
        have EF : Hid _ := ef
        clear ef
        go_wp2_with fail
        go_quiet_grown (first | (go_at_call 30; refine Calls.grown_of (HCG.out _ _)))
        go_wp2
        go_ret
        exact ⟨ret_b EF.out, hb.trans ((below_grown _ _ nq osq (Nat.le_refl _)).mono hb.size)⟩
      · go_wp2_with fail
        go_quiet_grown (first | (go_at_call 30; refine Calls.grown_of (HCG.out _ _)))
        go_wp2
        go_roundg ip
        case measure => omega
        case rel =>
          refine ⟨ip, by go_num, by omega, Nat.le_refl _, hb.trans ((below_grown _ _ nq osq (Nat.le_refl _)).mono hb.size), (show Aside _ from fun j h1 h2 => ?_)⟩
          rcases Nat.lt_or_ge ip j with q | q
          · exact HO.out j q h2
          · obtain rfl : j = ip := by omega
            rw [HXX.out, HYY.out]
            have := mt HCN.out.2 (by omega)
            omega
    · have hlz : ¬ (0 : Int) < (i : Int) := by omega
      have ef : srtB xs = true := srtB_true fun j hj => HO.out j (by omega) (by rw [hn.out] at hj; exact hj)
      have EF : Hid _ := ef
      clear ef
      go_wp2
      go_ret
      exact ⟨ret_b EF.out, hb⟩

theorem isSorted_any (v : Value) (xs : Array (Int × Int)) (w : World) (h : Sl w v xs) (hsz : xs.size ≤ 60) :
    Calls Tryd.prog 54 #[v, .func (.func 30) #[] #[]] w fun e w' => e = .returned (.bool (srtB xs)) ∧ Below w.heap.size w w' := by
  obtain ⟨p, cap, rfl, hcap, h | ⟨blk, off, rfl, hr⟩⟩ := h
  · rw [h, srtB_true fun i hi => by omega]
    exact (isSorted_none p cap w).mono fun e w' ⟨h1, h2⟩ => ⟨h1, by rw [h2]; exact Below.refl _ _⟩
  · by_cases h0 : xs.size = 0
    · rw [h0, srtB_true fun i hi => by omega]
      exact (isSorted_none _ cap w).mono fun e w' ⟨h1, h2⟩ => ⟨h1, by rw [h2]; exact Below.refl _ _⟩
    · exact isSorted_some blk off cap xs.size xs w hr rfl (by omega) hsz

/-- What Sorted answers. -/
theorem sorted_any (v : Value) (xs : Array (Int × Int)) (w : World) (h : Sl w v xs) (hbig : xs.size ≤ 9223372036854775807) :
    Calls Tryd.prog 46 #[v] w fun e w' => e = .returned (.tuple #[.bool (decide (wrong xs = 0) && srtB xs), errV (wrong xs)]) ∧ Below w.heap.size w w' := by
  have hcon := check_any v xs w h hbig
  by_cases hk : wrong xs = 0
  · have h60 : xs.size ≤ 60 := by
      unfold wrong at hk
      by_cases c : 60 < xs.size
      · rw [if_pos c] at hk; omega
      · omega
    have hcon2 : ∀ w', Below w.heap.size w w' → _ := fun w' hb => isSorted_any v xs w' (h.below hb) h60
    rw [hk] at hcon ⊢
    simp only [errV, if_true, decide_true, Bool.true_and] at hcon ⊢
    generalize srtB xs = r at hcon2 ⊢
    obtain ⟨p, cap, rfl, _⟩ := h
    have HC2 : Aside _ := hcon2
    clear hk hcon2
    go_enter Tryd.func46, Tryd.ntmps46
    go_wp2_with (first | (go_at_call 29; refine hcon.mono ?_; rintro e w1 ⟨rfl, hb⟩) | (go_at_call 54; refine (HC2.out _ hb).mono ?_; rintro e w2 ⟨rfl, hb2⟩))
    go_ret2
    exact ⟨rfl, hb.trans (hb2.mono hb.size)⟩
  · have e1 : errV (wrong xs) = .iface 48 (.int .i64 (wrong xs : Nat)) := if_neg hk
    rw [e1] at hcon ⊢
    simp only [hk, decide_false, Bool.false_and]
    generalize wrong xs = k at hcon ⊢
    obtain ⟨p, cap, rfl, _⟩ := h
    go_enter Tryd.func46, Tryd.ntmps46
    go_wp2_with (first | (go_at_call 29; refine hcon.mono ?_; rintro e w1 ⟨rfl, hb⟩))
    go_ret2
    exact ⟨rfl, hb⟩
end Go.Proofs.YtakkjgcehmpijaaDoor
