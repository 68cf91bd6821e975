/-
  Package stream: slices.Min, Least; a stream in use: the numbers that came.
-/
import Derived.Test.YtcjfbenbdjlodabStC
namespace Go.Proofs.Ytcjfbenbdjlodab
open Go.RowKit Go.Sort Go.Proofs

/-- m is the least of them. -/
def LeastOf (ls : List Int) (m : Int) : Prop := m ∈ ls ∧ ∀ y ∈ ls, m ≤ y
theorem least_one {ls : List Int} {x : Int} (h : ls[0]? = some x) : LeastOf (ls.take 1) x := by
  cases ls with
  | nil => simp at h
  | cons a t => simp at h; subst h; exact ⟨by simp, fun y hy => by simp at hy; omega⟩
theorem least_more {ls : List Int} {k : Nat} {m x : Int} (h : LeastOf (ls.take k) m) (hx : ls[k]? = some x) : LeastOf (ls.take (k + 1)) (if x < m then x else m) := by
  have e : ls.take (k + 1) = ls.take k ++ [x] := by
    obtain ⟨hk, hv⟩ := List.getElem?_eq_some_iff.1 hx
    rw [List.take_succ_eq_append_getElem hk, hv]
  rw [e]
  split
  · rename_i hlt
    refine ⟨by simp, fun y hy => ?_⟩
    rcases List.mem_append.1 hy with z | z
    · have := h.2 y z; omega
    · simp at z; omega
  · rename_i hlt
    refine ⟨List.mem_append_left _ h.1, fun y hy => ?_⟩
    rcases List.mem_append.1 hy with z | z
    · exact h.2 y z
    · simp at z; omega
set_option maxHeartbeats 2000000 in
theorem min_any {w : World} {g n cap : Nat} {ls : List Int} (h : OwnE EZ w 0 (.slice (some ⟨g, 0, none⟩) n cap) ls) (hl : ls.length = n) (hn : 0 < n) (hb : n ≤ 1000) :
    Calls Try.prog 21 #[.slice (some ⟨g, 0, none⟩) n cap] w fun e w' => ∃ m : Int, e = .returned (.int .i64 m) ∧ LeastOf ls m ∧ w' = w := by
  obtain ⟨x0, hx0⟩ : ∃ x, ls[0]? = some x := ⟨_, List.getElem?_eq_getElem (by omega)⟩
  have c0 := (h.num hx0).1
  have hz : ¬ ((n : Int) < 1) := by omega
  have hz2 : (0 : Int) < (n : Int) := by omega
  have H := hidp h
  have HL := hidp hl
  have HX0 := hidp hx0
  clear h hl hx0
  go_enter Try.func21, Try.ntmps21
  go_wp2
  go_loopg [3, 4] n (fun gg v3 v4 wr => ∃ (m : Int) (k : Nat), v3 = .int .i64 m ∧ v4 = .int .i64 k ∧ 1 ≤ k ∧ k ≤ n ∧ n - k ≤ gg ∧ Hid (LeastOf (ls.take k) m) ∧ wr = w)
  case atStart => exact ⟨x0, 1, rfl, rfl, Nat.le_refl _, hn, by omega, least_one HX0.out, rfl⟩
  case round =>
    obtain ⟨m, k, rfl, rfl, hk, hkn, hgg, HM, rfl⟩ := hrel
    by_cases hlt : k < n
    · have hkz : (k : Int) < (n : Int) := by omega
      obtain ⟨x, hx⟩ : ∃ x, ls[k]? = some x := ⟨_, List.getElem?_eq_getElem (by rw [HL.out]; exact hlt)⟩
      have cx := (H.out.num hx).1
      have HS := hidp (least_more HM.out hx)
      clear hx
      by_cases hxm : x < m
      · rw [if_pos hxm] at HS
        go_wp2
        go_roundg (n - (k + 1))
        case measure => omega
        case rel => exact ⟨x, k + 1, by go_num, by go_num, by omega, by omega, Nat.le_refl _, HS, rfl⟩
      · rw [if_neg hxm] at HS
        go_wp2
        go_roundg (n - (k + 1))
        case measure => omega
        case rel => exact ⟨m, k + 1, by go_num, by go_num, by omega, by omega, Nat.le_refl _, HS, rfl⟩
    · obtain rfl : k = n := by omega
      have hkz : ¬ ((k : Int) < (k : Int)) := by omega
      have HE : Hid (LeastOf ls m) := by
        have := HM.out
        rw [List.take_of_length_le (by rw [HL.out]; exact Nat.le_refl _)] at this
        exact this
      go_wp2
      go_ret
      exact ⟨m, rfl, HE.out, rfl⟩
set_option maxHeartbeats 1000000 in
theorem least_none {w : World} {sb room : Nat} {a b : Array (Int × Int)} {f : List Nat} (h : SAt w sb room [] a b f) :
    Calls Try.prog 8 #[.pointer (some ⟨sb, 0, none⟩)] w fun e w' => e = .returned (.tuple #[.int .i64 0, .iface 44 (.int .i64 5)]) ∧ w' = w := by
  obtain ⟨lv, qa, qb, fa, fb, h, rfl⟩ := h
  obtain ⟨p, c, rfl⟩ := h.own.form
  obtain ⟨_, c1, _, _⟩ := h.mem.cells
  rw [List.length_nil] at c1
  clear h
  go_enter Try.func8, Try.ntmps8
  go_wp2
  go_ret2
  exact ⟨rfl, rfl⟩
set_option maxHeartbeats 1000000 in
theorem least_some {w : World} {sb room : Nat} {ls : List Int} {a b : Array (Int × Int)} {f : List Nat} (h : SAt w sb room ls a b f) (h0 : 0 < ls.length) (hs : ls.length ≤ 1000) :
    Calls Try.prog 8 #[.pointer (some ⟨sb, 0, none⟩)] w fun e w' => ∃ m : Int, e = .returned (.tuple #[.int .i64 m, .nilIface]) ∧ LeastOf ls m ∧ w' = w := by
  obtain ⟨lv, qa, qb, fa, fb, h, rfl⟩ := h
  obtain ⟨n, hn⟩ : ∃ n, ls.length = n := ⟨_, rfl⟩
  obtain ⟨g, cap, rfl, _⟩ := num_some h.own hn (by omega)
  obtain ⟨_, c1, _, _⟩ := h.mem.cells
  have C1 := hidp (min_any h.own hn (by omega) (by omega))
  have hz : ((n : Int) == 0) = false := beq_eq_false_iff_ne.2 (by omega)
  clear h hn h0 hs
  go_enter Try.func8, Try.ntmps8
  go_wp2_with (go_at_call 21; refine C1.out.mono ?_; rintro e w' ⟨m, rfl, hm, rfl⟩; have HM := hidp hm; clear hm)
  go_ret2
  exact ⟨m, rfl, HM.out, rfl⟩
theorem halve_sizes (a b : Array (Int × Int)) (c : Int) : (halve a b c).1.size + (halve a b c).2.size = a.size + b.size + 1 := by
  unfold halve
  simp only
  have e1 : (hpop (hpush a (itmG c))).size = a.size := by rw [hpop_size, hpush_size]; omega
  have e2 : (overA (hpush a (itmG c)) b).size = b.size + 1 := by unfold overA; rw [hpush_size]
  split
  · show (overB _ _).size + (hpop _).size = _
    unfold overB
    rw [hpush_size, e1, hpop_size, e2]; omega
  · show (hpop _).size + (overA _ _).size = _
    rw [e1, e2]; omega
theorem lasts_more (room : Nat) (h0 : 1 ≤ room) (zs : List Int) (c : Int) : lastsP room (zs.drop (zs.length - room)) c = (zs ++ [c]).drop ((zs ++ [c]).length - room) := by
  unfold lastsP
  rw [List.length_append, List.length_singleton, List.length_drop]
  rcases Nat.lt_or_ge zs.length room with h | h
  · rw [if_neg (by omega), show zs.length - room = 0 by omega, show zs.length + 1 - room = 0 by omega]; rfl
  · rw [if_pos (by omega), List.drop_drop, List.drop_append_of_le_length (by omega)]
    congr 2
    omega
/-- A stream in use: these numbers came. -/
def StS (w : World) (sb room : Nat) (zs : List Int) (f : List Nat) : Prop := ∃ a b, SAt w sb room (zs.drop (zs.length - room)) a b f ∧ Half zs a b ∧ zs.length ≤ 60 ∧ 1 ≤ room
section
variable {w w' : World} {sb room : Nat} {zs : List Int} {f : List Nat}
theorem StS.lt (h : StS w sb room zs f) : ∀ j ∈ f, j < w.heap.size := by obtain ⟨a, b, h, _⟩ := h; exact h.lt
theorem StS.nodup (h : StS w sb room zs f) : f.Nodup := by obtain ⟨a, b, h, _⟩ := h; exact h.nodup
theorem StS.kept {F : Nat → Prop} (h : StS w sb room zs f) (hc : Chg F w w') (hf : ∀ j ∈ f, ¬ F j) : StS w' sb room zs f := by
  obtain ⟨a, b, h, r⟩ := h
  exact ⟨a, b, h.kept hc hf, r⟩
/-- What the middle of them is. -/
def MidOf (zs : List Int) (m : Int) : Prop := ∃ a b, Half zs a b ∧ m = valG a[0]!
theorem ss_new {w : World} {room : Nat} (h1 : 1 ≤ room) (h2 : room ≤ 60) :
    Calls Try.prog 6 #[.int .i64 (room : Int)] w fun e w' => ∃ sb f, e = .returned (.tuple #[.pointer (some ⟨sb, 0, none⟩), .nilIface]) ∧ StS w' sb room [] f ∧ (∀ j ∈ f, w.heap.size ≤ j) ∧ Below w.heap.size w w' :=
  (new_good h1 h2).mono fun _ _ ⟨sb, f, e, h, p, q⟩ => ⟨sb, f, e, ⟨#[], #[], by simpa using h, Half.nil, Nat.zero_le _, h1⟩, p, q⟩
theorem ss_put (h : StS w sb room zs f) (hs : zs.length < 60) {c : Int} (hc : ¬ (c < -1000000 ∨ 1000000 < c)) :
    Calls Try.prog 7 #[.pointer (some ⟨sb, 0, none⟩), .int .i64 c] w fun e w' => e = .returned .nilIface ∧ ∃ f', StS w' sb room (zs ++ [c]) f' ∧ Step f f' w w' := by
  obtain ⟨a, b, h, k, h1, h2⟩ := h
  have hl := k.len
  refine (put_good h hc h2 (by rw [List.length_drop]; omega) (by omega) (by omega)).mono ?_
  rintro e w' ⟨rfl, f', q, s⟩
  rw [lasts_more room h2] at q
  exact ⟨rfl, f', ⟨_, _, q, k.step c, by rw [List.length_append]; simp; omega, h2⟩, s⟩
theorem ss_middle (h : StS w sb room zs f) (h0 : 0 < zs.length) :
    Calls Try.prog 14 #[.pointer (some ⟨sb, 0, none⟩)] w fun e w' => ∃ m : Int, e = .returned (.tuple #[.int .i64 m, .nilIface]) ∧ MidOf zs m ∧ w' = w := by
  obtain ⟨a, b, h, k, h1, h2⟩ := h
  exact (middle_some h (k.pos h0)).mono fun _ _ ⟨e, q⟩ => ⟨_, e, ⟨a, b, k, rfl⟩, q⟩
theorem ss_middle_none (h : StS w sb room [] f) :
    Calls Try.prog 14 #[.pointer (some ⟨sb, 0, none⟩)] w fun e w' => e = .returned (.tuple #[.int .i64 0, .iface 44 (.int .i64 5)]) ∧ w' = w := by
  obtain ⟨a, b, h, k, h1, h2⟩ := h
  have hl := k.len
  obtain rfl : a = #[] := Array.eq_empty_of_size_eq_zero (by have : ([] : List Int).length = 0 := rfl; omega)
  exact middle_none h
theorem ss_least (h : StS w sb room zs f) (h0 : 0 < zs.length) :
    Calls Try.prog 8 #[.pointer (some ⟨sb, 0, none⟩)] w fun e w' => ∃ m : Int, e = .returned (.tuple #[.int .i64 m, .nilIface]) ∧ LeastOf (zs.drop (zs.length - room)) m ∧ w' = w := by
  obtain ⟨a, b, h, k, h1, h2⟩ := h
  exact least_some h (by rw [List.length_drop]; omega) (by rw [List.length_drop]; omega)
theorem ss_least_none (h : StS w sb room [] f) :
    Calls Try.prog 8 #[.pointer (some ⟨sb, 0, none⟩)] w fun e w' => e = .returned (.tuple #[.int .i64 0, .iface 44 (.int .i64 5)]) ∧ w' = w := by
  obtain ⟨a, b, h, k, h1, h2⟩ := h
  exact least_none (by simpa using h)
theorem StS.few (h : StS w sb room zs f) : zs.length ≤ 60 := by obtain ⟨a, b, h, k, h1, h2⟩ := h; exact h1
end
/-- A row of one's own that grew by an append. -/
theorem app_step {w w1 : World} {o : Obj} {v v' : Value} (a2 : (w.alloc o).grownBy w1 v.ownBlock) (a3 : v'.ownBlock = v.ownBlock ∨ v'.ownBlock = some (w.alloc o).heap.size) : Step v.ownBlock.toList v'.ownBlock.toList w w1 := by
  have hA : (w.alloc o).heap.size = w.heap.size + 1 := by simp
  refine ⟨by cases v'.ownBlock <;> simp, fun j hj => ?_, ((Chg.refl _ w).alloc o).trans (Chg.of_grown (F := (· ∈ v.ownBlock.toList)) a2 fun k e => by rw [e]; simp) fun j z => Or.inl z⟩
  rcases a3 with e | e
  · exact Or.inl (by rw [← e]; exact hj)
  · rw [e, hA] at hj
    have : j = w.heap.size + 1 := by simpa using hj
    exact Or.inr (by omega)
end Go.Proofs.Ytcjfbenbdjlodab
