/-
  Package soft: a heap in use (New, Push, Pop, Many, Wrong), and softFact.
-/
import Derived.Test.YtdpfijhkbhmkgaaDoorSoW
namespace Go.Proofs.YtdpfijhkbhmkgaaDoor
open Go.RowKit Go.Sort Go.Proofs Go.Lib

/-- A heap in use: its trees, its blocks f, none of them below B; so many were pushed. -/
structure SH (w : World) (B hb r0 n : Nat) (ts : List SN) (f : List Nat) : Prop where
  mem : HAt w hb r0 n ts f
  nodup : f.Nodup
  base : ∀ j ∈ f, B ≤ j
  good : GoodS r0 n ts
  many : (allS ts).length ≤ n
  most : n ≤ 400
section
variable {w w' : World} {B hb r0 n : Nat} {ts : List SN} {f : List Nat}
theorem SH.below (h : SH w B hb r0 n ts f) (hb' : Below w.heap.size w w') : SH w' B hb r0 n ts f := ⟨h.mem.below hb', h.nodup, h.base, h.good, h.many, h.most⟩
theorem SH.kept (h : SH w B hb r0 n ts f) {F : Nat → Prop} (hc : Chg F w w') (hf : ∀ j ∈ f, ¬ F j) : SH w' B hb r0 n ts f := ⟨h.mem.kept hc hf, h.nodup, h.base, h.good, h.many, h.most⟩
theorem SH.lt (h : SH w B hb r0 n ts f) : ∀ j ∈ f, j < w.heap.size := h.mem.lt
theorem SH.len (h : SH w B hb r0 n ts f) : ts.length ≤ 1000 := by
  have h1 := len_room ts
  have h2 := h.good.room
  have h3 := h.most
  omega
/-- What the heap does is not seen below. -/
theorem SH.step (h : SH w B hb r0 n ts f) (hB : B ≤ w.heap.size) {g : List Nat} (s : Step f g w w') : Below B w w' := s.chg.below h.base hB
theorem step_base {f g : List Nat} (hf : ∀ j ∈ f, B ≤ j) (hB : B ≤ w.heap.size) (s : Step f g w w') : ∀ j ∈ g, B ≤ j := by
  intro j hj
  rcases s.sub j hj with q | q
  · exact hf j q
  · omega
theorem goodS_nil (r0 : Nat) : GoodS r0 0 [] := ⟨fun _ q => absurd q List.not_mem_nil, List.Pairwise.nil, Nat.le_refl _⟩
theorem sh_new {r0 : Nat} (h : r0 ≤ 8) : Calls Tryd.prog 7 #[.int .i64 (r0 : Int)] w fun e w' => ∃ hb, e = .returned (.tuple #[.pointer (some ⟨hb, 0, none⟩), .nilIface]) ∧ SH w' w.heap.size hb r0 0 [] [hb] ∧ Below w.heap.size w w' :=
  (new_good h).mono fun _ _ ⟨hb, e, h1, h2, h3⟩ => ⟨hb, e, ⟨h1, by simp, fun j z => by rw [List.mem_singleton.1 z]; exact h2, goodS_nil r0, Nat.le_refl _, Nat.zero_le _⟩, h3⟩
theorem sh_push (h : SH w B hb r0 n ts f) (hB : B ≤ w.heap.size) {x0 x1 : Int} (hx : wrongS1 n x0 x1 = 0) :
    Calls Tryd.prog 8 #[.pointer (some ⟨hb, 0, none⟩), .agg #[.int .i64 x0, .int .i64 x1]] w fun e w' => e = .returned .nilIface ∧ ∃ f', SH w' B hb r0 (n + 1) (pushS r0 (x0, x1) ts) f' ∧ Step f f' w w' := by
  unfold wrongS1 at hx
  split at hx
  · rename_i hx0
    split at hx
    · rename_i hn
      refine (push_good h.mem h.nodup h.good h.many hn hx0).mono ?_
      rintro e w' ⟨rfl, f', k1, k2⟩
      obtain ⟨g1, g2⟩ := h.good.push (x0, x1)
      refine ⟨rfl, f', ⟨k1, k2.nodup, step_base h.base hB k2, g1, ?_, hn⟩, k2⟩
      have := g2.length_eq
      have := h.many
      simp only [List.length_cons] at *
      omega
    · cases hx
  · rename_i hx0; exact absurd hx hx0
theorem sh_full (h : SH w B hb r0 n ts f) {x0 x1 : Int} (hx : wrongS1 n x0 x1 ≠ 0) :
    Calls Tryd.prog 8 #[.pointer (some ⟨hb, 0, none⟩), .agg #[.int .i64 x0, .int .i64 x1]] w fun e w' => e = .returned (errV (wrongS1 n x0 x1)) ∧ SH w' B hb r0 n ts f ∧ Below w.heap.size w w' :=
  (push_bad h.mem h.most hx).mono fun _ _ ⟨e, q⟩ => ⟨e, h.below q, q⟩
theorem sh_none (h : SH w B hb r0 n [] f) :
    Calls Tryd.prog 9 #[.pointer (some ⟨hb, 0, none⟩)] w fun e w' => e = .returned (.tuple #[.agg #[.int .i64 0, .int .i64 0], .int .i64 0, .iface 57 (.int .i64 5)]) ∧ SH w' B hb r0 n [] f ∧ Below w.heap.size w w' :=
  (pop_none h.mem).mono fun _ _ ⟨e, q⟩ => ⟨e, h.below q, q⟩
theorem sh_pop (h : SH w B hb r0 n ts f) (hB : B ≤ w.heap.size) (hne : ts ≠ []) : ∃ (k : Int) (r m : Nat) (x0 x1 : Int) (is : List (Int × Int)) (a b : SN),
    ts[atS ts ts.length]? = some (.node k r m ((x0, x1) :: is) a b) ∧ ((x0, x1) :: allS (popS ts)).Perm (allS ts) ∧ x0 ≤ k ∧ (r ≤ r0 → x0 = k) ∧ (∀ t ∈ ts, k ≤ t.key) ∧
    Calls Tryd.prog 9 #[.pointer (some ⟨hb, 0, none⟩)] w fun e w' => e = .returned (.tuple #[.agg #[.int .i64 x0, .int .i64 x1], .int .i64 k, .nilIface]) ∧ ∃ f', SH w' B hb r0 n (popS ts) f' ∧ Step f f' w w' := by
  obtain ⟨k, r, m, ⟨x0, x1⟩, is, a, b, e, g1, g2, g3, g4, g5⟩ := h.good.pop hne
  refine ⟨k, r, m, x0, x1, is, a, b, e, g2, g3, g4, g5, (pop_some h.mem h.nodup h.good (Nat.le_trans h.many h.most) h.most rfl e).mono ?_⟩
  rintro e' w' ⟨rfl, f', k1, k2⟩
  refine ⟨rfl, f', ⟨k1, k2.nodup, step_base h.base hB k2, g1, ?_, h.most⟩, k2⟩
  have := g2.length_eq
  have := h.many
  simp only [List.length_cons] at *
  omega
theorem sh_many (h : SH w B hb r0 n ts f) : Calls Tryd.prog 16 #[.pointer (some ⟨hb, 0, none⟩)] w fun e w' => e = .returned (.int .i64 (manyS ts : Nat)) ∧ SH w' B hb r0 n ts f ∧ Below w.heap.size w w' :=
  (many_heap h.mem (Nat.le_trans h.many (Nat.le_trans h.most (by omega))) h.len).mono fun _ _ ⟨e, q⟩ => ⟨e, h.below q, q⟩
theorem sh_wrong (h : SH w B hb r0 n ts f) : Calls Tryd.prog 11 #[.pointer (some ⟨hb, 0, none⟩)] w fun e w' => e = .returned (.int .i64 (wrongS ts : Nat)) ∧ SH w' B hb r0 n ts f ∧ Below w.heap.size w w' :=
  (wrong_heap h.mem (Nat.le_trans h.many (Nat.le_trans h.most (by omega))) h.len).mono fun _ _ ⟨e, q⟩ => ⟨e, h.below q, q⟩
end
theorem push_nil (r0 : Nat) (x : Int × Int) : pushS r0 x [] = [leafS x] := rfl
set_option maxHeartbeats 4000000 in
theorem softFact_any (w : World) : Calls Tryd.prog 6 #[] w fun e w' => e = .returned (.bool true) ∧ Below w.heap.size w w' := by
  have C0 := hid (sh_new (w := w) (r0 := 2) (by omega))
  go_enter Tryd.func6, Tryd.ntmps6
  go_wp2_with fail
  refine C0.out.mono ?_
  rintro e w1 ⟨hb, rfl, h1, hb1⟩
  have H1 := hid h1
  have HB1 := hid hb1
  clear h1 hb1 C0
  go_wp2_with fail
  refine (sh_push H1.out HB1.out.size (x0 := 4) (x1 := 3) (by decide)).mono ?_
  rintro e w2 ⟨rfl, f2, h2, s2⟩
  have hb2 : Below w.heap.size w w2 := HB1.out.trans (H1.out.step HB1.out.size s2)
  have H2 := hid h2
  have HB2 := hid hb2
  clear h2 s2 hb2 H1 HB1
  rw [push_nil] at H2
  go_wp2_with fail
  have hp := pop_some H2.out.mem H2.out.nodup H2.out.good (Nat.le_trans H2.out.many H2.out.most) H2.out.most rfl (show [leafS (4, 3)][0]? = some (.node 4 0 1 [(4, 3)] .nil .nil) from rfl)
  refine hp.mono ?_
  rintro e w3 ⟨rfl, f3, _, s3⟩
  have HB3 : Hid (Below w.heap.size w w3) := HB2.out.trans (H2.out.step HB2.out.size s3)
  clear hp s3 H2 HB2
  go_wp2
  go_ret
  exact ⟨rfl, HB3.out.alloc HB3.out.size _⟩
#print axioms softFact_any
end Go.Proofs.YtdpfijhkbhmkgaaDoor
