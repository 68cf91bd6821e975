/-
  What the middle is; streamFact; a stream beside a row of numbers.
-/
import Derived.Test.YtcjfbenbdjlodabStD
namespace Go.Proofs.Ytcjfbenbdjlodab
open Go.RowKit Go.Sort Go.Proofs

theorem mid_bounds {zs : List Int} {m : Int} (h : MidOf zs m) (h0 : 0 < zs.length) : 2 * lessN zs m ≤ zs.length ∧ 2 * moreN zs m ≤ zs.length ∧ lessN zs m + moreN zs m < zs.length := by
  obtain ⟨a, b, k, rfl⟩ := h
  have h1 := k.middle h0
  have h2 := k.len
  have h3 := k.size
  omega
theorem mid_at {zs s : List Int} {m : Int} (h : MidOf zs m) (h0 : 0 < zs.length) (hp : s.Perm zs) (hs : s.Pairwise (· ≤ ·)) : s[(zs.length - 1) / 2]? = some m := by
  obtain ⟨a, b, k, rfl⟩ := h
  have hl := hp.length_eq
  have hi : (zs.length - 1) / 2 < s.length := by omega
  rw [List.getElem?_eq_getElem hi, k.at h0 hp hs hi]
theorem mid_pair {m : Int} (h : MidOf [4, 9] m) : m = 4 := by
  have := mid_at (s := [4, 9]) h (by decide) (List.Perm.refl _) (by decide)
  simpa using this.symm
set_option maxHeartbeats 4000000 in
theorem streamFact_any (w : World) : Calls Try.prog 5 #[] w fun e w' => e = .returned (.bool true) ∧ Below w.heap.size w w' := by
  have C0 := hidp (ss_new (w := w) (room := 2) (by omega) (by omega))
  go_enter Try.func5, Try.ntmps5
  go_wp2_with fail
  refine C0.out.mono ?_
  rintro e w1 ⟨sb, f, rfl, h1, h2, h3⟩
  have C1 := hidp (ss_put (c := 4) h1 (by decide) (by decide))
  have HB1 := hidp h3
  have HF := hidp h2
  clear h1 h2 h3 C0
  go_wp2_with fail
  refine C1.out.mono ?_
  rintro e w2 ⟨rfl, f2, h1, s1⟩
  have C2 := hidp (ss_put (c := 9) h1 (by decide) (by decide))
  have S1 := hidp s1
  clear h1 s1 C1
  go_wp2_with fail
  refine C2.out.mono ?_
  rintro e w3 ⟨rfl, f3, h1, s2⟩
  have S2 := hidp (S1.out.trans s2)
  have C3 := hidp (ss_middle h1 (by decide))
  clear h1 s2 C2 S1
  go_wp2_with fail
  refine C3.out.mono ?_
  rintro e w4 ⟨m, rfl, hm, rfl⟩
  obtain rfl := mid_pair hm
  clear C3 hm
  go_wp2
  go_ret
  exact ⟨rfl, HB1.out.trans (S2.out.chg.below HF.out HB1.out.size)⟩
/-- A stream, and a row of numbers of one's own beside it. -/
structure Beside (w0 : World) (sb room : Nat) (zs : List Int) (f : List Nat) (v : Value) (ys : List Int) (w : World) : Prop where
  st : StS w sb room zs f
  own : OwnE EZ w 0 v ys
  nodup : (v.ownBlock.toList ++ f).Nodup
  base : ∀ j ∈ v.ownBlock.toList ++ f, w0.heap.size ≤ j
  below : Below w0.heap.size w0 w
section
variable {w0 w w' : World} {sb room : Nat} {zs ys : List Int} {f : List Nat} {v : Value}
theorem Beside.step_base {o : List Nat} (h : Beside w0 sb room zs f v ys w) (s : Step (v.ownBlock.toList ++ f) o w w') : (∀ j ∈ o, w0.heap.size ≤ j) ∧ Below w0.heap.size w0 w' := by
  refine ⟨fun j hj => ?_, h.below.trans (s.chg.below h.base h.below.size)⟩
  rcases s.sub j hj with z | z
  · exact h.base j z
  · exact Nat.le_trans h.below.size z
theorem Beside.begin {w1 : World} (hb : Below w0.heap.size w0 w) (h : StS w1 sb room [] f) (hf : ∀ j ∈ f, w.heap.size ≤ j) (hb1 : Below w.heap.size w w1) : Beside w0 sb room [] f (.slice none 0 0) [] w1 :=
  ⟨h, OwnE.nil EZ _ 0, h.nodup, fun j hj => Nat.le_trans hb.size (hf j hj), hb.trans (hb1.mono hb.size)⟩
theorem Beside.put (h : Beside w0 sb room zs f v ys w) (hs : zs.length < 60) {c : Int} (hc : ¬ (c < -1000000 ∨ 1000000 < c)) :
    Calls Try.prog 7 #[.pointer (some ⟨sb, 0, none⟩), .int .i64 c] w fun e w' => e = .returned .nilIface ∧ ∃ f', Beside w0 sb room (zs ++ [c]) f' v ys w' := by
  refine (ss_put h.st hs hc).mono ?_
  rintro e w' ⟨rfl, f', k, s⟩
  have s2 := s.right h.nodup (num_lt h.own)
  obtain ⟨b1, b2⟩ := h.step_base s2
  exact ⟨rfl, f', k, num_kept h.own s.chg (apart_r h.nodup), s2.nodup, b1, b2⟩
theorem Beside.app {v' : Value} {c : Int} (h : Beside w0 sb room zs f v ys w) (a1 : OwnE EZ w' 0 v' (ys ++ [c])) (a2 : (w.alloc (.cells #[.int .i64 c] 3)).grownBy w' v.ownBlock) (a3 : v'.ownBlock = v.ownBlock ∨ v'.ownBlock = some (w.alloc (.cells #[.int .i64 c] 3)).heap.size) :
    Beside w0 sb room zs f v' (ys ++ [c]) w' := by
  have s := app_step a2 a3
  have s2 := s.left h.nodup h.st.lt
  obtain ⟨b1, b2⟩ := h.step_base s2
  exact ⟨h.st.kept s.chg (apart_l h.nodup), a1, s2.nodup, b1, b2⟩
theorem Beside.same (h : Beside w0 sb room zs f v ys w) (hb : Below w.heap.size w w') : Beside w0 sb room zs f v ys w' :=
  ⟨h.st.kept (F := fun _ => False) (Chg.of_below hb) (fun _ _ q => q), num_kept h.own (F := fun _ => False) (Chg.of_below hb) (fun _ _ q => q), h.nodup, h.base, h.below.trans (hb.mono h.below.size)⟩
end
/-- The cells of a list that came in. -/
theorem RdE.nums {w : World} {blk off : Nat} {xs : List Int} (h : RdE EZ w blk off xs) {w' : World} (hb : Below w.heap.size w w') {i : Nat} {x : Int} (hx : xs[i]? = Option.some x) : w'.cell? ⟨blk, off + i, none⟩ = Option.some (.int .i64 x) :=
  (h.below hb h.1).int hx
#print axioms Beside.app
end Go.Proofs.Ytcjfbenbdjlodab
