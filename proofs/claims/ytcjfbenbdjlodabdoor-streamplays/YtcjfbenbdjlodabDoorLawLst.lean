/-
  The law StreamLeast, walked: the least of the last.
-/
import Derived.Test.YtcjfbenbdjlodabDoorLawStF
namespace Go.Proofs.YtcjfbenbdjlodabDoor
open Go.RowKit Go.Sort Go.Proofs

/-- Two streams, and a row of numbers of one's own beside them. -/
structure Two (w0 : World) (sb room : Nat) (zs : List Int) (f : List Nat) (tb : Nat) (zt : List Int) (g : List Nat) (v : Value) (ys : List Int) (w : World) : Prop where
  st : StS w sb room zs f
  tt : StS w tb 60 zt g
  own : OwnE EZ w 0 v ys
  nodup : (v.ownBlock.toList ++ (f ++ g)).Nodup
  base : ∀ j ∈ v.ownBlock.toList ++ (f ++ g), w0.heap.size ≤ j
  below : Below w0.heap.size w0 w
section
variable {w0 w w' : World} {sb room tb : Nat} {zs zt ys : List Int} {f g : List Nat} {v : Value}
theorem Two.step_base {o : List Nat} (h : Two w0 sb room zs f tb zt g v ys w) (s : Step (v.ownBlock.toList ++ (f ++ g)) o w w') : (∀ j ∈ o, w0.heap.size ≤ j) ∧ Below w0.heap.size w0 w' := by
  refine ⟨fun j hj => ?_, h.below.trans (s.chg.below h.base h.below.size)⟩
  rcases s.sub j hj with z | z
  · exact h.base j z
  · exact Nat.le_trans h.below.size z
theorem Two.lt (h : Two w0 sb room zs f tb zt g v ys w) : ∀ j ∈ f ++ g, j < w.heap.size := by
  intro j hj
  rcases List.mem_append.1 hj with z | z
  · exact h.st.lt j z
  · exact h.tt.lt j z
theorem Two.begin {w1 w2 w3 : World} (hb : Below w0.heap.size w0 w1) (h1 : StS w2 sb room [] f) (hf : ∀ j ∈ f, w1.heap.size ≤ j) (hb1 : Below w1.heap.size w1 w2) (h2 : StS w3 tb 60 [] g) (hg : ∀ j ∈ g, w2.heap.size ≤ j) (hb2 : Below w2.heap.size w2 w3) : Two w0 sb room [] f tb [] g (.slice none 0 0) [] w3 := by
  have s1 := hb.size
  have s2 := hb1.size
  refine ⟨h1.kept (F := fun _ => False) (Chg.of_below hb2) (fun _ _ q => q), h2, OwnE.nil EZ _ 0, ?_, ?_, (hb.trans (hb1.mono s1)).trans (hb2.mono (by omega))⟩
  · show (f ++ g).Nodup
    refine List.nodup_append.2 ⟨h1.nodup, h2.nodup, fun x hx y hy e => ?_⟩
    subst e
    have := h1.lt x hx
    have := hg x hy
    omega
  · intro j hj
    rcases List.mem_append.1 (show j ∈ f ++ g from hj) with z | z
    · have := hf j z; omega
    · have := hg j z; omega
theorem Two.put1 (h : Two w0 sb room zs f tb zt g v ys w) (hs : zs.length < 60) {c : Int} (hc : ¬ (c < -1000000 ∨ 1000000 < c)) :
    Calls Tryd.prog 6 #[.pointer (some ⟨sb, 0, none⟩), .int .i64 c] w fun e w' => e = .returned .nilIface ∧ ∃ f', Two w0 sb room (zs ++ [c]) f' tb zt g v ys w' := by
  refine (ss_put h.st hs hc).mono ?_
  rintro e w' ⟨rfl, f', k, s⟩
  have nf := (List.nodup_append.1 h.nodup).2.1
  have s2 := s.left nf h.tt.lt
  have s3 := s2.right h.nodup (num_lt h.own)
  obtain ⟨b1, b2⟩ := h.step_base s3
  exact ⟨rfl, f', k, h.tt.kept s.chg (apart_l nf), num_kept h.own s2.chg (apart_r h.nodup), s3.nodup, b1, b2⟩
theorem Two.put2 (h : Two w0 sb room zs f tb zt g v ys w) (hs : zt.length < 60) {c : Int} (hc : ¬ (c < -1000000 ∨ 1000000 < c)) :
    Calls Tryd.prog 6 #[.pointer (some ⟨tb, 0, none⟩), .int .i64 c] w fun e w' => e = .returned .nilIface ∧ ∃ g', Two w0 sb room zs f tb (zt ++ [c]) g' v ys w' := by
  refine (ss_put h.tt hs hc).mono ?_
  rintro e w' ⟨rfl, g', k, s⟩
  have nf := (List.nodup_append.1 h.nodup).2.1
  have s2 := s.right nf h.st.lt
  have s3 := s2.right h.nodup (num_lt h.own)
  obtain ⟨b1, b2⟩ := h.step_base s3
  exact ⟨rfl, g', h.st.kept s.chg (apart_r nf), k, num_kept h.own s2.chg (apart_r h.nodup), s3.nodup, b1, b2⟩
theorem Two.app {v' : Value} {c : Int} (h : Two w0 sb room zs f tb zt g v ys w) (a1 : OwnE EZ w' 0 v' (ys ++ [c])) (a2 : (w.alloc (.cells #[.int .i64 c] 3)).grownBy w' v.ownBlock) (a3 : v'.ownBlock = v.ownBlock ∨ v'.ownBlock = some (w.alloc (.cells #[.int .i64 c] 3)).heap.size) :
    Two w0 sb room zs f tb zt g v' (ys ++ [c]) w' := by
  have s := app_step a2 a3
  have s2 := s.left h.nodup h.lt
  obtain ⟨b1, b2⟩ := h.step_base s2
  have ha := apart_l h.nodup
  exact ⟨h.st.kept s.chg fun j z => ha j (List.mem_append_left _ z), h.tt.kept s.chg fun j z => ha j (List.mem_append_right _ z), a1, s2.nodup, b1, b2⟩
end
set_option maxHeartbeats 1000000 in
theorem lasts_any {w : World} {g n cap room : Nat} (h0 : 1 ≤ room) (hn : 0 < n) (hc : n ≤ cap) (hb : n ≤ 1000) (hr : room ≤ 60) :
    Calls Tryd.prog 10 #[.slice (some ⟨g, 0, none⟩) n cap, .int .i64 (room : Int)] w fun e w' => e = .returned (.slice (some ⟨g, n - room, none⟩) (n - (n - room)) (cap - (n - room))) ∧ w' = w := by
  by_cases hlt : room < n
  · obtain ⟨k, hk⟩ : ∃ k, n - room = k := ⟨_, rfl⟩
    obtain rfl : n = room + k := by omega
    have hz : (room : Int) < (room : Int) + (k : Int) := by omega
    have hw : IntKind.i64.wrap (k : Int) = (k : Int) := by rw [IntKind.wrap_i64]; omega
    have hw2 : IntKind.i64.wrap ((room : Int) + (k : Int) - (room : Int)) = (k : Int) := by rw [IntKind.wrap_i64]; omega
    have hs : (room : Int) + (k : Int) - (room : Int) = (k : Int) := by omega
    have h1 : (k : Int) ≤ (room : Int) + (k : Int) := by omega
    have h2 : k < cap := by omega
    have h3 : ¬ (cap = k) := by omega
    rw [hk, show room + k - k = room by omega]
    go_enter Tryd.func10, Tryd.ntmps10
    go_wp2
    go_ret
    exact ⟨rfl, rfl⟩
  · have e : n - room = 0 := by omega
    have hz : ¬ ((room : Int) < (n : Int)) := by omega
    rw [e]
    go_enter Tryd.func10, Tryd.ntmps10
    go_wp2
    go_ret
    exact ⟨rfl, rfl⟩

/-- Whether x is among the first k. -/
def HereIn (h : Bool) (L : List Int) (k : Nat) (x : Int) : Prop := h = true ↔ x ∈ L.take k
theorem here_zero (L : List Int) (x : Int) : HereIn false L 0 x := by unfold HereIn; simp
theorem here_succ {L : List Int} {k : Nat} {y x : Int} (hx : L[k]? = some y) : x ∈ L.take (k + 1) ↔ x ∈ L.take k ∨ x = y := by
  obtain ⟨hk, hv⟩ := List.getElem?_eq_some_iff.1 hx
  rw [List.take_succ_eq_append_getElem hk, hv]
  simp
theorem here_keep {L : List Int} {k : Nat} {y x : Int} (h : HereIn true L k x) (hx : L[k]? = some y) : HereIn true L (k + 1) x := ⟨fun _ => (here_succ hx).2 (Or.inl (h.1 rfl)), fun _ => rfl⟩
theorem here_new {L : List Int} {k : Nat} {x : Int} (hx : L[k]? = some x) : HereIn true L (k + 1) x := ⟨fun _ => (here_succ hx).2 (Or.inr rfl), fun _ => rfl⟩
theorem here_not {L : List Int} {k : Nat} {y x : Int} (h : HereIn false L k x) (hx : L[k]? = some y) (e : ¬ y = x) : HereIn false L (k + 1) x := by
  refine ⟨fun z => (by cases z), fun z => ?_⟩
  rcases (here_succ hx).1 z with z | z
  · exact h.2 z
  · exact absurd z.symm e
theorem here_end {h : Bool} {L : List Int} {k : Nat} {x : Int} (hh : HereIn h L k x) (hl : L.length ≤ k) (hm : x ∈ L) : h = true := hh.2 (by rw [List.take_of_length_le hl]; exact hm)
theorem least_drop {ys : List Int} {o : Nat} {m n : Int} (hm : LeastOf ys m) (hn : LeastOf (ys.drop o) n) : m ≤ n := hm.2 n (List.mem_of_mem_drop hn.1)
end Go.Proofs.YtcjfbenbdjlodabDoor
