/-
  Are the keys of two lists the same, in order?
-/
import Derived.Test.YtcjfbenbdjlodaaOwn
namespace Go.Proofs.Ytcjfbenbdjlodaa
open Go.RowKit Go.Sort Go.Proofs

theorem keys_none (p1 p2 : Option Addr) (c1 c2 : Nat) (w : World) :
    Calls Try.prog 11 #[.slice p1 0 c1, .slice p2 0 c2] w fun e w' => e = .returned (.bool true) ∧ ∃ q, w' = w.drewN q := by
  go_enter Try.func11, Try.ntmps11
  go_wp2
  go_loop [5] (fun i => i = .int .i64 0) (fun _ => 0)
  case atStart => rfl
  case round =>
    subst hrel
    go_wp2
    go_ret
    exact ⟨rfl, 0, rfl⟩
set_option maxHeartbeats 2000000 in
theorem keys_some (b1 o1 c1 b2 o2 c2 n : Nat) (xs ys : Array (Int × Int)) (w : World) (HX : Hid (RdAt w b1 o1 xs)) (HY : Hid (RdAt w b2 o2 ys)) (hn : Hid (xs.size = n)) (hm : Hid (ys.size = n)) (hsz : n ≤ 60) (HK : Hid (∀ j, j < n → xs[j]!.1 = ys[j]!.1)) :
    Calls Try.prog 11 #[.slice (some ⟨b1, o1, none⟩) n c1, .slice (some ⟨b2, o2, none⟩) n c2] w fun e w' => e = .returned (.bool true) ∧ ∃ q, w' = w.drewN q := by
  go_enter Try.func11, Try.ntmps11
  go_wp2
  go_loopg [5] n (fun g vi wr => ∃ i q : Nat, vi = .int .i64 i ∧ i + g = n ∧ wr = w.drewN q)
  case atStart => exact ⟨0, 0, rfl, by omega, rfl⟩
  case round =>
    obtain ⟨i, q, rfl, hg, rfl⟩ := hrel
    by_cases hlt : i < n
    · have hlz : (i : Int) < (n : Int) := by omega
      obtain ⟨x0, x1, hx⟩ : ∃ x y, xs[i]! = (x, y) := ⟨_, _, rfl⟩
      obtain ⟨y0, y1, hy⟩ : ∃ x y, ys[i]! = (x, y) := ⟨_, _, rfl⟩
      obtain ⟨cx0, cx1⟩ := HX.out.2 i (by rw [hn.out]; exact hlt)
      obtain ⟨cy0, cy1⟩ := HY.out.2 i (by rw [hm.out]; exact hlt)
      have he := HK.out i hlt
      rw [hx] at cx0 cx1 he
      rw [hy] at cy0 cy1 he
      have he' : x0 = y0 := he
      subst he'
      clear hx hy he
      go_wp2_with fail
      go_quiet (fail)
      go_wp2
      go_roundg (n - (i + 1))
      case measure => omega
      case rel => exact ⟨i + 1, q + nq, by go_num, by omega, by first | rfl | rw [World.drewN_drewN]⟩
    · have hlz : ¬ (i : Int) < (n : Int) := by omega
      go_wp2
      go_ret
      exact ⟨rfl, q, rfl⟩
theorem keys_same (u v : Value) (xs ys : Array (Int × Int)) (w : World) (hx : Sl w u xs) (hy : Sl w v ys) (hs : xs.size = ys.size) (h60 : xs.size ≤ 60) (hk : ∀ j, j < xs.size → xs[j]!.1 = ys[j]!.1) :
    Calls Try.prog 11 #[u, v] w fun e w' => e = .returned (.bool true) ∧ ∃ q, w' = w.drewN q := by
  obtain ⟨p1, c1, rfl, _, hx⟩ := hx
  obtain ⟨p2, c2, rfl, _, hy⟩ := hy
  by_cases h0 : xs.size = 0
  · rw [← hs, h0]; exact keys_none p1 p2 c1 c2 w
  · rcases hx with hx | ⟨b1, o1, rfl, hx⟩
    · exact absurd hx h0
    rcases hy with hy | ⟨b2, o2, rfl, hy⟩
    · exact absurd (hs.trans hy) h0
    rw [← hs]
    exact keys_some b1 o1 c1 b2 o2 c2 xs.size xs ys w hx hy rfl hs.symm h60 hk

/-- Two lists of numbers that do not fall, and have the same ones, are the same. -/
theorem perm_sorted_eq : ∀ (l l' : List Int), l.Pairwise (· ≤ ·) → l'.Pairwise (· ≤ ·) → l.Perm l' → l = l'
  | [], l', _, _, h => (List.nil_perm.1 h).symm ▸ rfl
  | x :: r, [], _, _, h => absurd h.length_eq (by simp)
  | x :: r, y :: s, h1, h2, h => by
    have a : y ≤ x := by
      rcases List.mem_cons.1 (h.mem_iff.1 (List.mem_cons_self)) with e | m
      · omega
      · exact (List.pairwise_cons.1 h2).1 x m
    have b : x ≤ y := by
      rcases List.mem_cons.1 (h.mem_iff.2 (List.mem_cons_self)) with e | m
      · omega
      · exact (List.pairwise_cons.1 h1).1 y m
    have e : x = y := by omega
    subst e
    rw [perm_sorted_eq r s (List.pairwise_cons.1 h1).2 (List.pairwise_cons.1 h2).2 h.cons_inv]

theorem OwnI.form {w : World} {base : Nat} {v : Value} {ys : List (Int × Int)} (h : OwnI w base v ys) : ∃ p c, v = .slice p ys.length c := by
  obtain ⟨_, ⟨rfl, h0⟩ | ⟨g, cap, cur, rfl, _⟩⟩ := h
  · exact ⟨none, 0, by rw [h0]⟩
  · exact ⟨_, _, rfl⟩
end Go.Proofs.Ytcjfbenbdjlodaa
