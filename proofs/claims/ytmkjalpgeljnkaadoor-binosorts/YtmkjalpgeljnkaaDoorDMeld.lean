/-
  bino.melded: two heaps added rank by rank.
-/
import Derived.Test.YtmkjalpgeljnkaaDoorDAdd
namespace Go.Proofs.YtmkjalpgeljnkaaDoor
open Go.RowKit Go.Sort Go.Proofs

/-- What is in the heap at a rank, of two that are melded. -/
def outAt (x y : Nat → List (Int × Int)) (j : Nat) : List (Int × Int) := outD (pickL (carTo x y j 0 []) (x j) (y j))
theorem carTo_snoc (x y : Nat → List (Int × Int)) : ∀ (n r : Nat) (c : List (Int × Int)), carTo x y (n + 1) r c = carD (pickL (carTo x y n r c) (x (r + n)) (y (r + n)))
  | 0, r, c => rfl
  | n + 1, r, c => by
    show carTo x y (n + 1) (r + 1) _ = carD (pickL (carTo x y n (r + 1) _) (x (r + (n + 1))) (y (r + (n + 1))))
    rw [carTo_snoc x y n (r + 1), show r + 1 + n = r + (n + 1) by omega]
theorem carTo_next (x y : Nat → List (Int × Int)) (k : Nat) : carD (pickL (carTo x y k 0 []) (x k) (y k)) = carTo x y (k + 1) 0 [] := by
  rw [carTo_snoc, Nat.zero_add]
theorem meldTo_add (x y : Nat → List (Int × Int)) : ∀ (n m r : Nat) (c : List (Int × Int)), meldTo x y (n + m) r c = meldTo x y n r c ++ meldTo x y m (r + n) (carTo x y n r c)
  | 0, m, r, c => by rw [Nat.zero_add]; rfl
  | n + 1, m, r, c => by
    rw [show n + 1 + m = (n + m) + 1 by omega]
    show putR r _ ++ meldTo x y (n + m) (r + 1) _ = (putR r _ ++ meldTo x y n (r + 1) _) ++ meldTo x y m (r + (n + 1)) (carTo x y n (r + 1) _)
    rw [meldTo_add x y n m (r + 1), List.append_assoc, show r + 1 + n = r + (n + 1) by omega]
theorem meldTo_snoc (x y : Nat → List (Int × Int)) (n : Nat) : meldTo x y (n + 1) 0 [] = meldTo x y n 0 [] ++ putR n (outAt x y n) := by
  rw [meldTo_add x y n 1 0, Nat.zero_add]
  congr 1
  show putR n _ ++ [] = _
  rw [List.append_nil]
  rfl
/-- Three slices in a block of their own. -/
theorem new_three (w : World) (s0 s1 s2 : SlV) (T : TypeId) (g : Nat) (hg : g = w.heap.size) : RdE ES (w.alloc (.cells #[.slice s0.1 s0.2.1 s0.2.2, .slice s1.1 s1.2.1 s1.2.2, .slice s2.1 s2.2.1 s2.2.2] T)) g 0 [s0, s1, s2] := by
  subst hg
  refine ⟨by simp, fun j v hv => ?_⟩
  rw [Nat.zero_add]
  match j, hv with
  | 0, hv => cases hv; simp
  | 1, hv => cases hv; simp
  | 2, hv => cases hv; simp
  | j + 3, hv => simp [El.flat, ES, encS] at hv

/-- Four arrays of six in blocks of their own. -/
theorem new_four (w : World) (a0 a1 a2 a3 a4 a5 b0 b1 b2 b3 b4 b5 : SlV) (T : TypeId) :
    WrE ES ((((w.alloc (.cells #[.slice a0.1 a0.2.1 a0.2.2, .slice a1.1 a1.2.1 a1.2.2, .slice a2.1 a2.2.1 a2.2.2, .slice a3.1 a3.2.1 a3.2.2, .slice a4.1 a4.2.1 a4.2.2, .slice a5.1 a5.2.1 a5.2.2] T)).alloc (.cells #[.slice b0.1 b0.2.1 b0.2.2, .slice b1.1 b1.2.1 b1.2.2, .slice b2.1 b2.2.1 b2.2.2, .slice b3.1 b3.2.1 b3.2.2, .slice b4.1 b4.2.1 b4.2.2, .slice b5.1 b5.2.1 b5.2.2] T)).alloc (.cells #[.slice none 0 0, .slice none 0 0, .slice none 0 0, .slice none 0 0, .slice none 0 0, .slice none 0 0] T)).alloc (.cells #[.slice none 0 0, .slice none 0 0, .slice none 0 0, .slice none 0 0, .slice none 0 0, .slice none 0 0] T)) w.heap.size 0 [a0, a1, a2, a3, a4, a5] ∧ WrE ES ((((w.alloc (.cells #[.slice a0.1 a0.2.1 a0.2.2, .slice a1.1 a1.2.1 a1.2.2, .slice a2.1 a2.2.1 a2.2.2, .slice a3.1 a3.2.1 a3.2.2, .slice a4.1 a4.2.1 a4.2.2, .slice a5.1 a5.2.1 a5.2.2] T)).alloc (.cells #[.slice b0.1 b0.2.1 b0.2.2, .slice b1.1 b1.2.1 b1.2.2, .slice b2.1 b2.2.1 b2.2.2, .slice b3.1 b3.2.1 b3.2.2, .slice b4.1 b4.2.1 b4.2.2, .slice b5.1 b5.2.1 b5.2.2] T)).alloc (.cells #[.slice none 0 0, .slice none 0 0, .slice none 0 0, .slice none 0 0, .slice none 0 0, .slice none 0 0] T)).alloc (.cells #[.slice none 0 0, .slice none 0 0, .slice none 0 0, .slice none 0 0, .slice none 0 0, .slice none 0 0] T)) (w.heap.size + 1) 0 [b0, b1, b2, b3, b4, b5] ∧ WrE ES ((((w.alloc (.cells #[.slice a0.1 a0.2.1 a0.2.2, .slice a1.1 a1.2.1 a1.2.2, .slice a2.1 a2.2.1 a2.2.2, .slice a3.1 a3.2.1 a3.2.2, .slice a4.1 a4.2.1 a4.2.2, .slice a5.1 a5.2.1 a5.2.2] T)).alloc (.cells #[.slice b0.1 b0.2.1 b0.2.2, .slice b1.1 b1.2.1 b1.2.2, .slice b2.1 b2.2.1 b2.2.2, .slice b3.1 b3.2.1 b3.2.2, .slice b4.1 b4.2.1 b4.2.2, .slice b5.1 b5.2.1 b5.2.2] T)).alloc (.cells #[.slice none 0 0, .slice none 0 0, .slice none 0 0, .slice none 0 0, .slice none 0 0, .slice none 0 0] T)).alloc (.cells #[.slice none 0 0, .slice none 0 0, .slice none 0 0, .slice none 0 0, .slice none 0 0, .slice none 0 0] T)) (w.heap.size + 1 + 1) 0 (List.replicate 6 (none, 0, 0)) ∧ WrE ES ((((w.alloc (.cells #[.slice a0.1 a0.2.1 a0.2.2, .slice a1.1 a1.2.1 a1.2.2, .slice a2.1 a2.2.1 a2.2.2, .slice a3.1 a3.2.1 a3.2.2, .slice a4.1 a4.2.1 a4.2.2, .slice a5.1 a5.2.1 a5.2.2] T)).alloc (.cells #[.slice b0.1 b0.2.1 b0.2.2, .slice b1.1 b1.2.1 b1.2.2, .slice b2.1 b2.2.1 b2.2.2, .slice b3.1 b3.2.1 b3.2.2, .slice b4.1 b4.2.1 b4.2.2, .slice b5.1 b5.2.1 b5.2.2] T)).alloc (.cells #[.slice none 0 0, .slice none 0 0, .slice none 0 0, .slice none 0 0, .slice none 0 0, .slice none 0 0] T)).alloc (.cells #[.slice none 0 0, .slice none 0 0, .slice none 0 0, .slice none 0 0, .slice none 0 0, .slice none 0 0] T)) (w.heap.size + 1 + 1 + 1) 0 (List.replicate 6 (none, 0, 0)) ∧ Below w.heap.size w ((((w.alloc (.cells #[.slice a0.1 a0.2.1 a0.2.2, .slice a1.1 a1.2.1 a1.2.2, .slice a2.1 a2.2.1 a2.2.2, .slice a3.1 a3.2.1 a3.2.2, .slice a4.1 a4.2.1 a4.2.2, .slice a5.1 a5.2.1 a5.2.2] T)).alloc (.cells #[.slice b0.1 b0.2.1 b0.2.2, .slice b1.1 b1.2.1 b1.2.2, .slice b2.1 b2.2.1 b2.2.2, .slice b3.1 b3.2.1 b3.2.2, .slice b4.1 b4.2.1 b4.2.2, .slice b5.1 b5.2.1 b5.2.2] T)).alloc (.cells #[.slice none 0 0, .slice none 0 0, .slice none 0 0, .slice none 0 0, .slice none 0 0, .slice none 0 0] T)).alloc (.cells #[.slice none 0 0, .slice none 0 0, .slice none 0 0, .slice none 0 0, .slice none 0 0, .slice none 0 0] T)) := by
  refine ⟨(((new_six w a0 a1 a2 a3 a4 a5 T).alloc' _).alloc' _).alloc' _, ?_, ?_, ?_, ((((Below.refl _ _).alloc (Nat.le_refl _) _).alloc (by simp) _).alloc (by simp; omega) _).alloc (by simp; omega) _⟩
  · have h := new_six (w.alloc (.cells #[.slice a0.1 a0.2.1 a0.2.2, .slice a1.1 a1.2.1 a1.2.2, .slice a2.1 a2.2.1 a2.2.2, .slice a3.1 a3.2.1 a3.2.2, .slice a4.1 a4.2.1 a4.2.2, .slice a5.1 a5.2.1 a5.2.2] T)) b0 b1 b2 b3 b4 b5 T
    rw [show (w.alloc (.cells #[.slice a0.1 a0.2.1 a0.2.2, .slice a1.1 a1.2.1 a1.2.2, .slice a2.1 a2.2.1 a2.2.2, .slice a3.1 a3.2.1 a3.2.2, .slice a4.1 a4.2.1 a4.2.2, .slice a5.1 a5.2.1 a5.2.2] T)).heap.size = w.heap.size + 1 by simp] at h
    exact (h.alloc' _).alloc' _
  · have h := new_nils ((w.alloc (.cells #[.slice a0.1 a0.2.1 a0.2.2, .slice a1.1 a1.2.1 a1.2.2, .slice a2.1 a2.2.1 a2.2.2, .slice a3.1 a3.2.1 a3.2.2, .slice a4.1 a4.2.1 a4.2.2, .slice a5.1 a5.2.1 a5.2.2] T)).alloc (.cells #[.slice b0.1 b0.2.1 b0.2.2, .slice b1.1 b1.2.1 b1.2.2, .slice b2.1 b2.2.1 b2.2.2, .slice b3.1 b3.2.1 b3.2.2, .slice b4.1 b4.2.1 b4.2.2, .slice b5.1 b5.2.1 b5.2.2] T)) T
    rw [show ((w.alloc (.cells #[.slice a0.1 a0.2.1 a0.2.2, .slice a1.1 a1.2.1 a1.2.2, .slice a2.1 a2.2.1 a2.2.2, .slice a3.1 a3.2.1 a3.2.2, .slice a4.1 a4.2.1 a4.2.2, .slice a5.1 a5.2.1 a5.2.2] T)).alloc (.cells #[.slice b0.1 b0.2.1 b0.2.2, .slice b1.1 b1.2.1 b1.2.2, .slice b2.1 b2.2.1 b2.2.2, .slice b3.1 b3.2.1 b3.2.2, .slice b4.1 b4.2.1 b4.2.2, .slice b5.1 b5.2.1 b5.2.2] T)).heap.size = w.heap.size + 1 + 1 by simp] at h
    exact h.alloc' _
  · have h := new_nils (((w.alloc (.cells #[.slice a0.1 a0.2.1 a0.2.2, .slice a1.1 a1.2.1 a1.2.2, .slice a2.1 a2.2.1 a2.2.2, .slice a3.1 a3.2.1 a3.2.2, .slice a4.1 a4.2.1 a4.2.2, .slice a5.1 a5.2.1 a5.2.2] T)).alloc (.cells #[.slice b0.1 b0.2.1 b0.2.2, .slice b1.1 b1.2.1 b1.2.2, .slice b2.1 b2.2.1 b2.2.2, .slice b3.1 b3.2.1 b3.2.2, .slice b4.1 b4.2.1 b4.2.2, .slice b5.1 b5.2.1 b5.2.2] T)).alloc (.cells #[.slice none 0 0, .slice none 0 0, .slice none 0 0, .slice none 0 0, .slice none 0 0, .slice none 0 0] T)) T
    rw [show (((w.alloc (.cells #[.slice a0.1 a0.2.1 a0.2.2, .slice a1.1 a1.2.1 a1.2.2, .slice a2.1 a2.2.1 a2.2.2, .slice a3.1 a3.2.1 a3.2.2, .slice a4.1 a4.2.1 a4.2.2, .slice a5.1 a5.2.1 a5.2.2] T)).alloc (.cells #[.slice b0.1 b0.2.1 b0.2.2, .slice b1.1 b1.2.1 b1.2.2, .slice b2.1 b2.2.1 b2.2.2, .slice b3.1 b3.2.1 b3.2.2, .slice b4.1 b4.2.1 b4.2.2, .slice b5.1 b5.2.1 b5.2.2] T)).alloc (.cells #[.slice none 0 0, .slice none 0 0, .slice none 0 0, .slice none 0 0, .slice none 0 0, .slice none 0 0] T)).heap.size = w.heap.size + 1 + 1 + 1 by simp] at h
    exact h

set_option maxHeartbeats 16000000 in
set_option maxRecDepth 4000 in
theorem melded_some (a0 a1 a2 a3 a4 a5 b0 b1 b2 b3 b4 b5 : SlV) (x y : Nat → List (Int × Int)) (w : World) (HA : Hid (DgAt w [a0, a1, a2, a3, a4, a5] x)) (HB : Hid (DgAt w [b0, b1, b2, b3, b4, b5] y)) (HX : Hid (∀ j, j < 6 → (x j).length ≤ 1000)) (HY : Hid (∀ j, j < 6 → (y j).length ≤ 1000)) (HZ : Hid (∀ j, j ≤ 6 → (carTo x y j 0 []).length ≤ 1000)) :
    Calls Tryd.prog 37 #[.agg #[.slice a0.1 a0.2.1 a0.2.2, .slice a1.1 a1.2.1 a1.2.2, .slice a2.1 a2.2.1 a2.2.2, .slice a3.1 a3.2.1 a3.2.2, .slice a4.1 a4.2.1 a4.2.2, .slice a5.1 a5.2.1 a5.2.2], .agg #[.slice b0.1 b0.2.1 b0.2.2, .slice b1.1 b1.2.1 b1.2.2, .slice b2.1 b2.2.1 b2.2.2, .slice b3.1 b3.2.1 b3.2.2, .slice b4.1 b4.2.1 b4.2.2, .slice b5.1 b5.2.1 b5.2.2]] w fun e w' => ∃ d, e = .returned (agV d) ∧ DgAt w' d (outAt x y) ∧ Below w.heap.size w w' := by
  go_enter Tryd.func37, Tryd.ntmps37
  go_wp2
  go_loopg [6, 8] 6 (fun gg v6 v8 wr => ∃ (k m c : Nat) (p : Option Addr) (d : List SlV), v6 = .slice p m c ∧ v8 = .int .i64 k ∧ k ≤ 6 ∧ 6 - k ≤ gg ∧ Hid (WrE ES wr w.heap.size 0 [a0, a1, a2, a3, a4, a5]) ∧ Hid (WrE ES wr (w.heap.size + 1) 0 [b0, b1, b2, b3, b4, b5]) ∧ Hid (WrE ES wr (w.heap.size + 1 + 1) 0 (List.replicate 6 (none, 0, 0))) ∧ Hid (WrE ES wr (w.heap.size + 1 + 1 + 1) 0 d) ∧ Hid (SlB (some (w.heap.size + 1 + 1 + 1)) wr (some (w.heap.size + 1 + 1)) (.slice p m c) (carTo x y k 0 [])) ∧ Hid (DgB (some (w.heap.size + 1 + 1 + 1)) wr (some (w.heap.size + 1 + 1)) d (fun j => if j < k then outAt x y j else [])) ∧ Hid (Below w.heap.size w wr))
  case atStart =>
    obtain ⟨q0, q1, q2, q3, q4⟩ := new_four w a0 a1 a2 a3 a4 a5 b0 b1 b2 b3 b4 b5 62
    exact ⟨0, 0, 0, none, _, rfl, rfl, by omega, by omega, q0, q1, q2, q3, SlB.nil _ _ _, (DgB.start _ _ _).congr fun j _ => by rw [if_neg (by omega)], q4⟩
  case round =>
    obtain ⟨k, m, c, p, d, rfl, rfl, hk, hg, H0, H1, H2, H3, HC, HD, HBw⟩ := hrel
    have hB : w.heap.size ≤ wr.heap.size := HBw.out.size
    have hl3 : w.heap.size + 1 + 1 + 1 < wr.heap.size := H3.out.lt
    have hl0 : w.heap.size < wr.heap.size := by omega
    have hl1 : w.heap.size + 1 < wr.heap.size := by omega
    by_cases hlt : k < 6
    · have hlz : (k : Int) < 6 := by omega
      obtain ⟨⟨pa, na, ca⟩, ea, sa⟩ := HA.out.2 k hlt
      obtain ⟨⟨pb, nb, cb⟩, eb, sb⟩ := HB.out.2 k hlt
      obtain ⟨sd, ed, _⟩ := HD.out.2 k hlt
      obtain ⟨t0, _⟩ := H0.out.row ea
      obtain ⟨t1, _⟩ := H1.out.row eb
      obtain ⟨k0, k1⟩ := H3.out.row ed
      simp only at t0 t1
      have HSA : Hid (SlB (some (w.heap.size + 1 + 1 + 1)) wr (some (w.heap.size + 1 + 1)) (.slice pa na ca) (x k)) := SlB.old sa HBw.out (fun g e => by have := Option.some.inj e; omega) (fun g e => by have := Option.some.inj e; omega)
      have HSB : Hid (SlB (some (w.heap.size + 1 + 1 + 1)) wr (some (w.heap.size + 1 + 1)) (.slice pb nb cb) (y k)) := SlB.old sb HBw.out (fun g e => by have := Option.some.inj e; omega) (fun g e => by have := Option.some.inj e; omega)
      have CA : Hid (∀ W, Below wr.heap.size wr W → RdE ES W wr.heap.size 0 [(p, m, c), (pa, na, ca), (pb, nb, cb)] → Calls Tryd.prog 47 #[.slice (some ⟨wr.heap.size, 0, none⟩) 3 3] W fun e w' => ∃ u v, e = .returned (.tuple #[u, v]) ∧ SlB (some (w.heap.size + 1 + 1 + 1)) w' (some (w.heap.size + 1 + 1)) u (outAt x y k) ∧ SlB (some (w.heap.size + 1 + 1 + 1)) w' (some (w.heap.size + 1 + 1)) v (carTo x y (k + 1) 0 []) ∧ Below W.heap.size W w') := by
        show ∀ W, _
        intro W hb hr
        have := added_some (some (w.heap.size + 1 + 1 + 1)) (some (w.heap.size + 1 + 1)) wr.heap.size (p, m, c) (pa, na, ca) (pb, nb, cb) (carTo x y k 0 []) (x k) (y k) W hr (HC.out.below hb) (HSA.out.below hb) (HSB.out.below hb) ⟨HZ.out k hk, HX.out k hlt, HY.out k hlt⟩ (fun g e => by have := Option.some.inj e; have := hb.size; omega) (fun g e => by have := Option.some.inj e; have := hb.size; omega)
        rw [carTo_next] at this
        exact this
      clear ea eb ed sa sb HSA HSB
      go_wp2_with fail
      go_region_held3 (fun w' => w'.cell? ⟨w.heap.size, k, none⟩ = some (.slice pa na ca) ∧ w'.cell? ⟨w.heap.size + 1, k, none⟩ = some (.slice pb nb cb)) (first | go_keep | (exact ⟨j0, j1⟩) | (exact ⟨(World.cell?_setCell_other _ _ _ _ (by simp)).trans j0, (World.cell?_setCell_other _ _ _ _ (by simp)).trans j1⟩)) (first | (go_at_call 47; refine (CA.out _ (below_drewN ((Below.refl _ _).alloc (Nat.le_refl _) _) 1) ((new_three wr (p, m, c) (pa, na, ca) (pb, nb, cb) _ _ rfl).block (Nat.le_refl _) rfl)).mono ?_; rintro e w2 ⟨u, v, rfl, hu, hv, hb2'⟩; have hb1 : Below wr.heap.size wr (wr.alloc (.cells #[.slice p m c, .slice pa na ca, .slice pb nb cb] 35)).drew := below_drewN ((Below.refl _ _).alloc (Nat.le_refl _) _) 1; have hb2 : Below wr.heap.size wr w2 := hb1.trans (hb2'.mono hb1.size); have j0 := (hb2.cell (p := ⟨w.heap.size, k, none⟩) hl0).trans t0; have j1 := (hb2.cell (p := ⟨w.heap.size + 1, k, none⟩) hl1).trans t1; have l0 := (hb2.cell (p := ⟨w.heap.size + 1 + 1 + 1, k, none⟩) hl3).trans k0; have l1 := (World.frozen?_of_block (a := ⟨w.heap.size + 1 + 1 + 1, k, none⟩) (hb2.block _ hl3)).trans k1; have hl4 : w.heap.size + 1 + 1 + 1 < w2.heap.size := Nat.lt_of_lt_of_le hl3 hb2.size; obtain ⟨pu, cu, eu, _⟩ := id hu; obtain ⟨pv, cv, ev, _⟩ := id hv; subst eu; subst ev; obtain ⟨nu, hnu⟩ : ∃ n, (outAt x y k).length = n := ⟨_, rfl⟩; obtain ⟨nv, hnv⟩ : ∃ n, (carTo x y (k + 1) 0 []).length = n := ⟨_, rfl⟩; rw [hnu] at hu ⊢; rw [hnv] at hv ⊢; have HU : Hid (SlB (some (w.heap.size + 1 + 1 + 1)) w2 (some (w.heap.size + 1 + 1)) (.slice pu nu cu) (outAt x y k)) := hu; have HV : Hid (SlB (some (w.heap.size + 1 + 1 + 1)) w2 (some (w.heap.size + 1 + 1)) (.slice pv nv cv) (carTo x y (k + 1) 0 [])) := hv; clear hu hv hnu hnv hb2' hb1))
      all_goals
        have hgs : w2.grownBy (w2.setCell ⟨w.heap.size + 1 + 1 + 1, k, none⟩ (.slice pu nu cu)) (some (w.heap.size + 1 + 1 + 1)) := gb_setCell w2 ⟨w.heap.size + 1 + 1 + 1, k, none⟩ (.slice pu nu cu)
        have HBw2 : Hid (Below w.heap.size w w2) := HBw.out.trans (hb2.mono hB)
        go_wp2
        go_roundg (6 - (k + 1))
        case measure => omega
        case rel =>
          refine ⟨k + 1, nv, cv, pv, d.set k (pu, nu, cu), rfl, by go_num, by omega, Nat.le_refl _, ?_, ?_, ?_, ?_, HV.out.apart hgs, ?_, ?_⟩
          · exact (H0.out.below hb2 H0.out.lt).kept hgs (fun e => by have := Option.some.inj e; omega)
          · exact (H1.out.below hb2 H1.out.lt).kept hgs (fun e => by have := Option.some.inj e; omega)
          · exact (H2.out.below hb2 H2.out.lt).kept hgs (fun e => by have := Option.some.inj e; omega)
          · exact (H3.out.below hb2 H3.out.lt).setRow (i := k) (by rw [HD.out.1]; exact hlt) (pu, nu, cu)
          · refine (((HD.out.below hb2).apart hgs).set (r := k) (s := (pu, nu, cu)) (HU.out.apart hgs)).congr fun j _ => ?_
            by_cases q : j = k
            · subst q; rw [if_pos rfl, if_pos (Nat.lt_succ_self _)]
            · rw [if_neg q]
              by_cases z : j < k
              · rw [if_pos z, if_pos (by omega)]
              · rw [if_neg z, if_neg (by omega)]
          · exact below_gb HBw2.out hgs (by omega) HBw2.out.size
    · obtain rfl : k = 6 := by omega
      have HDE : Hid (DgB (some (w.heap.size + 1 + 1 + 1)) wr (some (w.heap.size + 1 + 1)) d (outAt x y)) := HD.out.congr fun j hj => by rw [if_pos hj]
      obtain ⟨s0, s1, s2, s3, s4, s5, rfl⟩ := six HD.out.1
      obtain ⟨⟨c0, c1, c2, c3, c4, c5⟩, _⟩ := H3.out.six
      obtain ⟨⟨d0, d1, d2, d3, d4, d5⟩, ⟨f0, f1, f2, f3, f4, f5⟩⟩ := H2.out.six
      have hl2 : w.heap.size + 1 + 1 < wr.heap.size := H2.out.lt
      clear HD HC H0 H1
      go_wp2
      refine bodyPost_ret (by simp [results, Tryd.results37, go_sem, d0, d1, d2, d3, d4, d5]; try rfl) rfl ?_
      exact ⟨_, rfl, (HDE.out.apartB (gb_six (World.grownBy.refl _ _) _ _ _ _ _ _)).at, below_six HBw.out (by omega) _ _ _ _ _ _⟩
theorem melded_any (da db : List SlV) (x y : Nat → List (Int × Int)) (w : World) (ha : DgAt w da x) (hb : DgAt w db y) (hx : ∀ j, j < 6 → (x j).length ≤ 1000) (hy : ∀ j, j < 6 → (y j).length ≤ 1000) (hz : ∀ j, j ≤ 6 → (carTo x y j 0 []).length ≤ 1000) :
    Calls Tryd.prog 37 #[agV da, agV db] w fun e w' => ∃ d, e = .returned (agV d) ∧ DgAt w' d (outAt x y) ∧ Below w.heap.size w w' := by
  obtain ⟨a0, a1, a2, a3, a4, a5, rfl⟩ := six ha.1
  obtain ⟨b0, b1, b2, b3, b4, b5, rfl⟩ := six hb.1
  exact melded_some a0 a1 a2 a3 a4 a5 b0 b1 b2 b3 b4 b5 x y w ha hb hx hy hz
#print axioms melded_any
end Go.Proofs.YtmkjalpgeljnkaaDoor
