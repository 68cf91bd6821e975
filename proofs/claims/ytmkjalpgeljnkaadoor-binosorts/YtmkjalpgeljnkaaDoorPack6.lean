/-
  Texts that the proof leans on, packed: DPop, Same, SameT, BDig, PGrow, Bag, PBag, BothW, KeysS, SwapR, ByKey, SymW.
-/
import Derived.Test.YtmkjalpgeljnkaaDoorPack5
import Derived.Test.YtmkjalpgeljnkaaDoorPack1
import Derived.Laws.StructEq
import Derived.Shelf.SlicesE.Kit

/-
  bino.Pop.
-/
namespace Go.Proofs.YtmkjalpgeljnkaaDoor
open Go.RowKit Go.Sort Go.Proofs

/-- The cells of an item that is told stay as they are. -/
theorem told_two {w w1 : World} (h : Below (w.alloc (.cells #[.int .i64 0, .int .i64 0] 24)).heap.size (w.alloc (.cells #[.int .i64 0, .int .i64 0] 24)) w1) : w1.cell? ⟨w.heap.size, 0, none⟩ = some (.int .i64 0) ∧ w1.cell? ⟨w.heap.size, 1, none⟩ = some (.int .i64 0) ∧ w1.frozen? ⟨w.heap.size, 0, none⟩ = false ∧ w1.frozen? ⟨w.heap.size, 1, none⟩ = false ∧ w.heap.size < w1.heap.size ∧ Below w.heap.size w w1 := by
  have hlt : w.heap.size < (w.alloc (.cells #[.int .i64 0, .int .i64 0] 24)).heap.size := by simp
  have hb : Below w.heap.size w (w.alloc (.cells #[.int .i64 0, .int .i64 0] 24)) := (Below.refl _ _).alloc (Nat.le_refl _) _
  exact ⟨(h.cell (p := ⟨w.heap.size, 0, none⟩) hlt).trans (by simp), (h.cell (p := ⟨w.heap.size, 1, none⟩) hlt).trans (by simp), (World.frozen?_of_block (a := ⟨w.heap.size, 0, none⟩) (h.block _ hlt)).trans (by simp), (World.frozen?_of_block (a := ⟨w.heap.size, 1, none⟩) (h.block _ hlt)).trans (by simp), Nat.lt_of_lt_of_le hlt h.size, hb.trans (h.mono hb.size)⟩
theorem digitH_erase : ∀ {h : List TrL} {a r : Nat} {l : List (Int × Int)}, h.Pairwise (fun a b => a.1 < b.1) → h[a]? = some (r, l) → ∀ j, (if j = r then [] else digitH h j) = digitH (h.eraseIdx a) j
  | [], a, r, l, _, e, _ => by simp at e
  | t :: h, 0, r, l, hp, e, j => by
    simp only [List.getElem?_cons_zero, Option.some.injEq] at e
    subst e
    have hq := (List.pairwise_cons.1 hp).1
    rw [List.eraseIdx_cons_zero]
    by_cases q : j = r
    · subst q
      rw [if_pos rfl]
      exact (digitH_none fun t ht => by have := hq t ht; simp only at this; omega).symm
    · rw [if_neg q, digitH_ne l h (fun c => q c.symm)]
  | (q, m) :: h, a + 1, r, l, hp, e, j => by
    simp only [List.getElem?_cons_succ] at e
    have hq := (List.pairwise_cons.1 hp).1 (r, l) (List.mem_of_getElem? e)
    simp only at hq
    rw [List.eraseIdx_cons_succ]
    have ih := digitH_erase (List.pairwise_cons.1 hp).2 e j
    by_cases z : q = j
    · subst z
      rw [digitH_eq, if_neg (by omega), digitH_eq]
    · rw [digitH_ne m h z, digitH_ne m (h.eraseIdx a) z]
      exact ih

theorem addr_ne {a b o o' : Nat} (h : ¬ a = b) : (⟨a, o, none⟩ : Addr) ≠ ⟨b, o', none⟩ := fun e => h (Addr.mk.inj e).1
set_option maxHeartbeats 4000000 in
theorem dPop_A (p : Option Addr) (n cap k : Nat) (w : World)
    (C : Hid (∀ w1, Below w.heap.size w w1 → Calls Tryd.prog 9 #[.slice p n cap] w1 fun e w' => e = .returned (.iface 56 (.int .i64 k)) ∧ Below w1.heap.size w1 w')) :
    Calls Tryd.prog 17 #[.slice p n cap] w fun e w' => e = .returned (.tuple #[.agg #[.int .i64 0, .int .i64 0], .slice none 0 0, .iface 56 (.int .i64 k)]) ∧ Below w.heap.size w w' := by
  have c1 := C.out (w.alloc (.cells #[.int .i64 0, .int .i64 0] 24)) ((Below.refl _ _).alloc (Nat.le_refl _) _)
  clear C
  go_enter Tryd.func17, Tryd.ntmps17
  go_wp2_with fail
  refine c1.mono ?_
  rintro e w1 ⟨rfl, hb1'⟩
  obtain ⟨b0, b1, f0, f1, hlt, hb1⟩ := told_two hb1'
  clear hb1' c1
  go_wp2
  refine bodyPost_ret (by simp [results, Tryd.results17, go_sem, b0, b1]; try rfl) rfl ?_
  exact ⟨rfl, (hb1.setCell (p := ⟨w.heap.size, 0, none⟩) (Nat.le_refl _) _).setCell (p := ⟨w.heap.size, 1, none⟩) (Nat.le_refl _) _⟩
set_option maxHeartbeats 4000000 in
theorem dPop_B (p : Option Addr) (cap : Nat) (w : World)
    (C : Hid (∀ w1, Below w.heap.size w w1 → Calls Tryd.prog 9 #[.slice p 0 cap] w1 fun e w' => e = .returned .nilIface ∧ Below w1.heap.size w1 w')) :
    Calls Tryd.prog 17 #[.slice p 0 cap] w fun e w' => e = .returned (.tuple #[.agg #[.int .i64 0, .int .i64 0], .slice none 0 0, .iface 56 (.int .i64 5)]) ∧ Below w.heap.size w w' := by
  have c1 := C.out (w.alloc (.cells #[.int .i64 0, .int .i64 0] 24)) ((Below.refl _ _).alloc (Nat.le_refl _) _)
  clear C
  go_enter Tryd.func17, Tryd.ntmps17
  go_wp2_with fail
  refine c1.mono ?_
  rintro e w1 ⟨rfl, hb1'⟩
  obtain ⟨b0, b1, f0, f1, hlt, hb1⟩ := told_two hb1'
  clear hb1' c1
  go_wp2
  refine bodyPost_ret (by simp [results, Tryd.results17, go_sem, b0, b1]; try rfl) rfl ?_
  exact ⟨rfl, (hb1.setCell (p := ⟨w.heap.size, 0, none⟩) (Nat.le_refl _) _).setCell (p := ⟨w.heap.size, 1, none⟩) (Nat.le_refl _) _⟩
set_option maxHeartbeats 32000000 in
set_option maxRecDepth 8000 in
theorem dPop_C (p : Option Addr) (n cap : Nat) (x0 x1 : Int) (r ln : Nat) (l : List (Int × Int)) (h : List TrL) (w : World) (hn : 0 < n) (hr : r ≤ 5) (hln : 0 < ln) (HN : Hid (h.length = n)) (HG : Hid (OkH h)) (HE : Hid (h[atTo h n]? = some (r, (x0, x1) :: l))) (HLN : Hid (((x0, x1) :: l).length = ln)) (HA : Hid (HpAt w (.slice p n cap) (zH h)))
    (C : Hid (∀ w1, Below w.heap.size w w1 → Calls Tryd.prog 9 #[.slice p n cap] w1 fun e w' => e = .returned .nilIface ∧ Below w1.heap.size w1 w'))
    (CL : Hid (∀ w1, Below w.heap.size w w1 → Calls Tryd.prog 39 #[.slice p n cap] w1 fun e w' => ∃ (q : Option Addr) (c : Nat), e = .returned (.agg #[.int .i64 (r : Int), .slice q ln c]) ∧ Sl w (.slice q ln c) ((x0, x1) :: l).toArray ∧ Below w1.heap.size w1 w')) :
    Calls Tryd.prog 17 #[.slice p n cap] w fun e w' => ∃ u, e = .returned (.tuple #[.agg #[.int .i64 x0, .int .i64 x1], u, .nilIface]) ∧ NewH w.heap.size w' u (popH h) ∧ Below w.heap.size w w' := by
  have hnz : ((n : Int) == 0) = false := by rw [beq_eq_false_iff_ne]; omega
  have hlz : (0 : Int) < (ln : Int) := by omega
  have hrz : (r : Int) < 6 := by omega
  have c1 := C.out (w.alloc (.cells #[.int .i64 0, .int .i64 0] 24)) ((Below.refl _ _).alloc (Nat.le_refl _) _)
  clear C
  go_enter Tryd.func17, Tryd.ntmps17
  go_wp2_with fail
  refine c1.mono ?_
  rintro e w1 ⟨rfl, hb1'⟩
  obtain ⟨n0, n1, f0, f1, hlt, hb1⟩ := told_two hb1'
  clear hb1' c1
  go_wp2_with fail
  refine (CL.out w1 hb1).mono ?_
  rintro e w2 ⟨q, c, rfl, hsl, hb2'⟩
  have hb2 := hb1.trans (hb2'.mono hb1.size)
  have hw1w2 : w1.heap.size ≤ w2.heap.size := hb2'.size
  obtain ⟨q', c', eq, hqc, hq0 | ⟨b, o, rfl, hrd⟩⟩ := id hsl
  · rw [List.size_toArray, HLN.out] at hq0; omega
  simp only [Value.slice.injEq] at eq
  obtain ⟨rfl, hq2, rfl⟩ := eq
  clear hq2
  obtain ⟨k0, k1⟩ := hrd.2 0 (by rw [List.size_toArray, HLN.out]; exact hln)
  simp only [Nat.zero_mul, Nat.add_zero] at k0 k1
  have k0' : w.cell? ⟨b, o, none⟩ = some (.int .i64 x0) := k0
  have k1' : w.cell? ⟨b, o + 1, none⟩ = some (.int .i64 x1) := k1
  have hbw : b < w.heap.size := hrd.1
  clear k0 k1 hrd hqc
  have HS2 : Hid (Sl w (.slice (some ⟨b, o, none⟩) ln c) ((x0, x1) :: l).toArray) := hsl
  have HT3 : Hid (TrB (w2.alloc (.cells #[.int .i64 (r : Int), .slice (some ⟨b, o, none⟩) ln c] 37)) w2.heap.size (r : Int) (some ⟨b, o, none⟩, ln, c)) := new_trb w2 (r : Int) (some ⟨b, o, none⟩, ln, c) _ _ rfl
  have HB3 : Hid (Below w2.heap.size w2 (w2.alloc (.cells #[.int .i64 (r : Int), .slice (some ⟨b, o, none⟩) ln c] 37))) := (Below.refl _ _).alloc (Nat.le_refl _) _
  have hb3 := hb2.trans (HB3.out.mono hb2.size)
  have cR := read_any _ h _ (HA.out.below hb3) HG.out
  have HB13 : Hid (Below w1.heap.size w1 (w2.alloc (.cells #[.int .i64 (r : Int), .slice (some ⟨b, o, none⟩) ln c] 37))) := hb2'.trans (HB3.out.mono hb2'.size)
  clear hsl hb2'
  go_wp2_with fail
  generalize (w2.alloc (.cells #[.int .i64 (r : Int), .slice (some ⟨b, o, none⟩) ln c] 37)) = w3 at HT3 HB3 hb3 cR HB13 ⊢
  refine cR.mono ?_
  rintro e w4 ⟨d, he, hd, hb4'⟩
  obtain ⟨s0, s1, s2, s3, s4, s5, rfl⟩ := six hd.1
  have he' : e = .returned (.agg #[.slice s0.1 s0.2.1 s0.2.2, .slice s1.1 s1.2.1 s1.2.2, .slice s2.1 s2.2.1 s2.2.2, .slice s3.1 s3.2.1 s3.2.2, .slice s4.1 s4.2.1 s4.2.2, .slice s5.1 s5.2.1 s5.2.2]) := he
  subst he'
  have HT4 : Hid (TrB w4 w2.heap.size (r : Int) (some ⟨b, o, none⟩, ln, c)) := HT3.out.below hb4' HT3.out.lt
  have HB14 : Hid (Below w1.heap.size w1 w4) := HB13.out.trans (hb4'.mono HB13.out.size)
  have HB34 : Hid (Below w2.heap.size w2 w4) := HB3.out.trans (hb4'.mono HB3.out.size)
  have HD4 : Hid (DgAt w4 [s0, s1, s2, s3, s4, s5] (digitH h)) := hd.below hb4'
  clear he hd hb4' cR HT3 HB3 hb3 HB13
  obtain ⟨hlt4, y0, y1, _, _⟩ := HT4.out
  simp only at y1
  obtain ⟨sr, es, _⟩ := HD4.out.2 r (by omega)
  have hsr : [Value.slice s0.1 s0.2.1 s0.2.2, .slice s1.1 s1.2.1 s1.2.2, .slice s2.1 s2.2.1 s2.2.2, .slice s3.1 s3.2.1 s3.2.2, .slice s4.1 s4.2.1 s4.2.2, .slice s5.1 s5.2.1 s5.2.2][r]? = some (.slice sr.1 sr.2.1 sr.2.2) := by
    have := congrArg (Option.map fun s : SlV => Value.slice s.1 s.2.1 s.2.2) es
    rw [← List.getElem?_map] at this
    exact this
  clear es
  obtain ⟨t0, t1, t2, t3, t4, t5, hset⟩ := six (d := [s0, s1, s2, s3, s4, s5].set r (none, 0, 0)) (by rw [List.length_set]; rfl)
  have hsv : [Value.slice s0.1 s0.2.1 s0.2.2, .slice s1.1 s1.2.1 s1.2.2, .slice s2.1 s2.2.1 s2.2.2, .slice s3.1 s3.2.1 s3.2.2, .slice s4.1 s4.2.1 s4.2.2, .slice s5.1 s5.2.1 s5.2.2].set r (.slice none 0 0) = [.slice t0.1 t0.2.1 t0.2.2, .slice t1.1 t1.2.1 t1.2.2, .slice t2.1 t2.2.1 t2.2.2, .slice t3.1 t3.2.1 t3.2.2, .slice t4.1 t4.2.1 t4.2.2, .slice t5.1 t5.2.1 t5.2.2] := by
    have := congrArg (List.map fun s : SlV => Value.slice s.1 s.2.1 s.2.2) hset
    rw [List.map_set] at this
    exact this
  have HD5 : Hid (DgAt w4 [t0, t1, t2, t3, t4, t5] (digitH (h.eraseIdx (atTo h n)))) := by
    show DgAt _ _ _
    rw [← hset]
    exact (HD4.out.set (r := r) (s := (none, 0, 0)) (Sl.nil w4)).congr fun j _ => digitH_erase HG.out.isH.rise HE.out j
  have HSV : Hid (_ = _) := hsv
  clear hset hsv HD4
  go_wp2_with fail
  rw [HSV.out]
  have HX7 : Hid (WrE ES (w4.alloc (.cells #[.slice t0.1 t0.2.1 t0.2.2, .slice t1.1 t1.2.1 t1.2.2, .slice t2.1 t2.2.1 t2.2.2, .slice t3.1 t3.2.1 t3.2.2, .slice t4.1 t4.2.1 t4.2.2, .slice t5.1 t5.2.1 t5.2.2] 62)) w4.heap.size 0 [t0, t1, t2, t3, t4, t5]) := new_six w4 t0 t1 t2 t3 t4 t5 _
  have HB5 : Hid (Below w4.heap.size w4 (w4.alloc (.cells #[.slice t0.1 t0.2.1 t0.2.2, .slice t1.1 t1.2.1 t1.2.2, .slice t2.1 t2.2.1 t2.2.2, .slice t3.1 t3.2.1 t3.2.2, .slice t4.1 t4.2.1 t4.2.2, .slice t5.1 t5.2.1 t5.2.2] 62))) := (Below.refl _ _).alloc (Nat.le_refl _) _
  have xa6 := (HB5.out.cell (p := ⟨w2.heap.size, 1, none⟩) hlt4).trans y1
  have hw24 : w2.heap.size ≤ w4.heap.size := HB34.out.size
  have hw12 : w1.heap.size ≤ w4.heap.size := HB14.out.size
  have HBW5 : Hid (Below w.heap.size w (w4.alloc (.cells #[.slice t0.1 t0.2.1 t0.2.2, .slice t1.1 t1.2.1 t1.2.2, .slice t2.1 t2.2.1 t2.2.2, .slice t3.1 t3.2.1 t3.2.2, .slice t4.1 t4.2.1 t4.2.2, .slice t5.1 t5.2.1 t5.2.2] 62))) := (hb1.trans (HB14.out.mono hb1.size)).trans (HB5.out.mono (Nat.le_trans hb1.size hw12))
  have n0' := ((HB14.out.trans (HB5.out.mono hw12)).cell (p := ⟨w.heap.size, 0, none⟩) hlt).trans n0
  have n1' := ((HB14.out.trans (HB5.out.mono hw12)).cell (p := ⟨w.heap.size, 1, none⟩) hlt).trans n1
  have f0' := (World.frozen?_of_block (a := ⟨w.heap.size, 0, none⟩) ((HB14.out.trans (HB5.out.mono hw12)).block _ hlt)).trans f0
  have f1' := (World.frozen?_of_block (a := ⟨w.heap.size, 1, none⟩) ((HB14.out.trans (HB5.out.mono hw12)).block _ hlt)).trans f1
  have hNw : w.heap.size < w4.heap.size := Nat.lt_of_lt_of_le hlt hw12
  have hN6 : w.heap.size < w2.heap.size := Nat.lt_of_lt_of_le hlt hw1w2
  have HD6 : Hid (DgAt (w4.alloc (.cells #[.slice t0.1 t0.2.1 t0.2.2, .slice t1.1 t1.2.1 t1.2.2, .slice t2.1 t2.2.1 t2.2.2, .slice t3.1 t3.2.1 t3.2.2, .slice t4.1 t4.2.1 t4.2.2, .slice t5.1 t5.2.1 t5.2.2] 62)) [t0, t1, t2, t3, t4, t5] (digitH (h.eraseIdx (atTo h n)))) := HD5.out.below HB5.out
  have hsz5 : (w4.alloc (.cells #[.slice t0.1 t0.2.1 t0.2.2, .slice t1.1 t1.2.1 t1.2.2, .slice t2.1 t2.2.1 t2.2.2, .slice t3.1 t3.2.1 t3.2.2, .slice t4.1 t4.2.1 t4.2.2, .slice t5.1 t5.2.1 t5.2.2] 62)).heap.size = w4.heap.size + 1 := by simp
  have hg7 : w4.heap.size < (w4.alloc (.cells #[.slice t0.1 t0.2.1 t0.2.2, .slice t1.1 t1.2.1 t1.2.2, .slice t2.1 t2.2.1 t2.2.2, .slice t3.1 t3.2.1 t3.2.2, .slice t4.1 t4.2.1 t4.2.2, .slice t5.1 t5.2.1 t5.2.2] 62)).heap.size := HX7.out.lt
  have hg6 : w2.heap.size < (w4.alloc (.cells #[.slice t0.1 t0.2.1 t0.2.2, .slice t1.1 t1.2.1 t1.2.2, .slice t2.1 t2.2.1 t2.2.2, .slice t3.1 t3.2.1 t3.2.2, .slice t4.1 t4.2.1 t4.2.2, .slice t5.1 t5.2.1 t5.2.2] 62)).heap.size := by omega
  have hb5 : b < (w4.alloc (.cells #[.slice t0.1 t0.2.1 t0.2.2, .slice t1.1 t1.2.1 t1.2.2, .slice t2.1 t2.2.1 t2.2.2, .slice t3.1 t3.2.1 t3.2.2, .slice t4.1 t4.2.1 t4.2.2, .slice t5.1 t5.2.1 t5.2.2] 62)).heap.size := by omega
  have hN5 : w.heap.size < (w4.alloc (.cells #[.slice t0.1 t0.2.1 t0.2.2, .slice t1.1 t1.2.1 t1.2.2, .slice t2.1 t2.2.1 t2.2.2, .slice t3.1 t3.2.1 t3.2.2, .slice t4.1 t4.2.1 t4.2.2, .slice t5.1 t5.2.1 t5.2.2] 62)).heap.size := by omega
  have xx0 := (HBW5.out.cell (p := ⟨b, o, none⟩) hbw).trans k0'
  have xx1 := (HBW5.out.cell (p := ⟨b, o + 1, none⟩) hbw).trans k1'
  obtain ⟨⟨xt0, xt1, xt2, xt3, xt4, xt5⟩, _⟩ := HX7.out.six
  have hNb : ¬ b = w.heap.size := by omega
  clear HSV HX7 HB5 HD5 HB14 HB34 HT4 y0 y1 n0 n1 f0 f1 hsr hb1 hb2 k0' k1' hsz5
  generalize (w4.alloc (.cells #[.slice t0.1 t0.2.1 t0.2.2, .slice t1.1 t1.2.1 t1.2.2, .slice t2.1 t2.2.1 t2.2.2, .slice t3.1 t3.2.1 t3.2.2, .slice t4.1 t4.2.1 t4.2.2, .slice t5.1 t5.2.1 t5.2.2] 62)) = w5 at *
  have hN7' : ¬ w4.heap.size = w.heap.size := by omega
  have hN6' : ¬ w2.heap.size = w.heap.size := by omega
  clear hNw hN6 hlt4 hw24 hw12 hw1w2
  generalize w4.heap.size = g7 at *
  generalize w2.heap.size = g6 at *
  have hN7 := hN7'
  have hN6 := hN6'
  clear hN7' hN6'
  obtain ⟨E, hE⟩ : ∃ E, h.eraseIdx (atTo h n) = E := ⟨_, rfl⟩
  obtain ⟨P, hP⟩ : ∃ P, partsL r ((x0, x1) :: l) r = P := ⟨_, rfl⟩
  have HPO : Hid (OkH E ∧ OkH P ∧ popH h = meldH E P ∧ (itemsH E).length + (itemsH P).length ≤ 60 ∧ ((x0, x1) :: l).length = 2 ^ r) := by
    obtain ⟨r', x', l', p1, p2, p3, p4, p5, p6, _⟩ := HG.out.pop (fun e => by have := HN.out; rw [e] at this; simp at this; omega)
    rw [HN.out, HE.out] at p1
    simp only [Option.some.injEq, Prod.mk.injEq, List.cons.injEq] at p1
    obtain ⟨rfl, rfl, rfl⟩ := p1
    rw [HN.out] at p2 p4
    rw [hE] at p2 p4
    rw [hP] at p3 p4
    have hT := HG.out.isH.trees _ (List.mem_of_getElem? HE.out)
    refine ⟨p2, p3, p4, ?_, hT.len⟩
    have q1 := (meldH_good p2.isH p3.isH (by have := p2.size; have := p3.size; omega)).2.length_eq
    rw [← p4, List.length_append] at q1
    have := p5.size
    omega
  have HDE : Hid (DgAt w5 [t0, t1, t2, t3, t4, t5] (digitH E)) := by show DgAt _ _ _; have := HD6.out; rw [hE] at this; exact this
  have HPD : Hid (∀ j, partD r ((x0, x1) :: l) j = digitH P j) := by show ∀ j, _; intro j; rw [← hP]; exact (digitH_partD r _ j).symm
  clear HD6 hE hP
  have CB : Hid (∀ W, Below w5.heap.size w5 W → Calls Tryd.prog 40 #[.slice (some ⟨b, o, none⟩) ln c] W fun e w' => ∃ d, e = .returned (agV d) ∧ DgAt w' d (digitH P) ∧ Below W.heap.size W w') := by
    show ∀ W, _
    intro W hb
    have := below_any (.slice (some ⟨b, o, none⟩) ln c) r ((x0, x1) :: l) W (HS2.out.below (HBW5.out.trans (hb.mono HBW5.out.size))) hr HPO.out.2.2.2.2
    exact this.mono fun e w' ⟨d, a1, a2, a3⟩ => ⟨d, a1, (a2.below a3).congr fun j _ => HPD.out j, a3⟩
  have CM : Hid (∀ W u0 u1 u2 u3 u4 u5, Below w5.heap.size w5 W → DgAt W [u0, u1, u2, u3, u4, u5] (digitH P) → Calls Tryd.prog 37 #[.agg #[.slice t0.1 t0.2.1 t0.2.2, .slice t1.1 t1.2.1 t1.2.2, .slice t2.1 t2.2.1 t2.2.2, .slice t3.1 t3.2.1 t3.2.2, .slice t4.1 t4.2.1 t4.2.2, .slice t5.1 t5.2.1 t5.2.2], .agg #[.slice u0.1 u0.2.1 u0.2.2, .slice u1.1 u1.2.1 u1.2.2, .slice u2.1 u2.2.1 u2.2.2, .slice u3.1 u3.2.1 u3.2.2, .slice u4.1 u4.2.1 u4.2.2, .slice u5.1 u5.2.1 u5.2.2]] W fun e w' => ∃ d, e = .returned (agV d) ∧ DgAt w' d (outAt (digitH E) (digitH P)) ∧ Below W.heap.size W w') := by
    show ∀ W u0 u1 u2 u3 u4 u5, _
    intro W u0 u1 u2 u3 u4 u5 hb hd
    have := melded_any [t0, t1, t2, t3, t4, t5] [u0, u1, u2, u3, u4, u5] (digitH E) (digitH P) W (HDE.out.below hb) hd (dig_len HPO.out.1.isH) (dig_len HPO.out.2.1.isH) (car_len HPO.out.1.isH HPO.out.2.1.isH)
    exact this
  have CW : Hid (∀ W e0 e1 e2 e3 e4 e5, w5.heap.size ≤ W.heap.size → DgAt W [e0, e1, e2, e3, e4, e5] (outAt (digitH E) (digitH P)) → Calls Tryd.prog 36 #[.agg #[.slice e0.1 e0.2.1 e0.2.2, .slice e1.1 e1.2.1 e1.2.2, .slice e2.1 e2.2.1 e2.2.2, .slice e3.1 e3.2.1 e3.2.2, .slice e4.1 e4.2.1 e4.2.2, .slice e5.1 e5.2.1 e5.2.2]] W fun e w' => ∃ u, e = .returned u ∧ NewH W.heap.size w' u (popH h) ∧ Below W.heap.size W w') := by
    show ∀ W e0 e1 e2 e3 e4 e5, _
    intro W e0 e1 e2 e3 e4 e5 hb hd
    have := written_any [e0, e1, e2, e3, e4, e5] (outAt (digitH E) (digitH P)) W hd (out_len HPO.out.1.isH HPO.out.2.1.isH)
    rw [← meldH_six HPO.out.1 HPO.out.2.1 HPO.out.2.2.2.1, ← HPO.out.2.2.1] at this
    exact this
  go_region_held3 (fun w' => w'.cell? ⟨g6, 1, none⟩ = some (.slice (some ⟨b, o, none⟩) ln c) ∧ w'.cell? ⟨b, o, none⟩ = some (.int .i64 x0) ∧ w'.cell? ⟨b, o + 1, none⟩ = some (.int .i64 x1) ∧ w'.cell? ⟨g7, 0, none⟩ = some (.slice t0.1 t0.2.1 t0.2.2) ∧ w'.cell? ⟨g7, 1, none⟩ = some (.slice t1.1 t1.2.1 t1.2.2) ∧ w'.cell? ⟨g7, 2, none⟩ = some (.slice t2.1 t2.2.1 t2.2.2) ∧ w'.cell? ⟨g7, 3, none⟩ = some (.slice t3.1 t3.2.1 t3.2.2) ∧ w'.cell? ⟨g7, 4, none⟩ = some (.slice t4.1 t4.2.1 t4.2.2) ∧ w'.cell? ⟨g7, 5, none⟩ = some (.slice t5.1 t5.2.1 t5.2.2)) (first | go_keep | (exact ⟨ya6, yx0, yx1, yt0, yt1, yt2, yt3, yt4, yt5⟩) | (exact ⟨za6, zx0, zx1, zt0, zt1, zt2, zt3, zt4, zt5⟩) | (exact ⟨va6, vx0, vx1, vt0, vt1, vt2, vt3, vt4, vt5⟩) | (exact ⟨(World.cell?_setCell_other _ _ _ _ (by first | exact addr_ne hN6 | exact addr_ne hN7 | exact addr_ne hNb | exact (addr_ne hN6).symm | exact (addr_ne hN7).symm | exact (addr_ne hNb).symm)).trans va6, (World.cell?_setCell_other _ _ _ _ (by first | exact addr_ne hN6 | exact addr_ne hN7 | exact addr_ne hNb | exact (addr_ne hN6).symm | exact (addr_ne hN7).symm | exact (addr_ne hNb).symm)).trans vx0, (World.cell?_setCell_other _ _ _ _ (by first | exact addr_ne hN6 | exact addr_ne hN7 | exact addr_ne hNb | exact (addr_ne hN6).symm | exact (addr_ne hN7).symm | exact (addr_ne hNb).symm)).trans vx1, (World.cell?_setCell_other _ _ _ _ (by first | exact addr_ne hN6 | exact addr_ne hN7 | exact addr_ne hNb | exact (addr_ne hN6).symm | exact (addr_ne hN7).symm | exact (addr_ne hNb).symm)).trans vt0, (World.cell?_setCell_other _ _ _ _ (by first | exact addr_ne hN6 | exact addr_ne hN7 | exact addr_ne hNb | exact (addr_ne hN6).symm | exact (addr_ne hN7).symm | exact (addr_ne hNb).symm)).trans vt1, (World.cell?_setCell_other _ _ _ _ (by first | exact addr_ne hN6 | exact addr_ne hN7 | exact addr_ne hNb | exact (addr_ne hN6).symm | exact (addr_ne hN7).symm | exact (addr_ne hNb).symm)).trans vt2, (World.cell?_setCell_other _ _ _ _ (by first | exact addr_ne hN6 | exact addr_ne hN7 | exact addr_ne hNb | exact (addr_ne hN6).symm | exact (addr_ne hN7).symm | exact (addr_ne hNb).symm)).trans vt3, (World.cell?_setCell_other _ _ _ _ (by first | exact addr_ne hN6 | exact addr_ne hN7 | exact addr_ne hNb | exact (addr_ne hN6).symm | exact (addr_ne hN7).symm | exact (addr_ne hNb).symm)).trans vt4, (World.cell?_setCell_other _ _ _ _ (by first | exact addr_ne hN6 | exact addr_ne hN7 | exact addr_ne hNb | exact (addr_ne hN6).symm | exact (addr_ne hN7).symm | exact (addr_ne hNb).symm)).trans vt5⟩) | (exact ⟨(World.cell?_setCell_other _ _ _ _ (by first | exact addr_ne hN6 | exact addr_ne hN7 | exact addr_ne hNb | exact (addr_ne hN6).symm | exact (addr_ne hN7).symm | exact (addr_ne hNb).symm)).trans ((World.cell?_setCell_other _ _ _ _ (by first | exact addr_ne hN6 | exact addr_ne hN7 | exact addr_ne hNb | exact (addr_ne hN6).symm | exact (addr_ne hN7).symm | exact (addr_ne hNb).symm)).trans va6), (World.cell?_setCell_other _ _ _ _ (by first | exact addr_ne hN6 | exact addr_ne hN7 | exact addr_ne hNb | exact (addr_ne hN6).symm | exact (addr_ne hN7).symm | exact (addr_ne hNb).symm)).trans ((World.cell?_setCell_other _ _ _ _ (by first | exact addr_ne hN6 | exact addr_ne hN7 | exact addr_ne hNb | exact (addr_ne hN6).symm | exact (addr_ne hN7).symm | exact (addr_ne hNb).symm)).trans vx0), (World.cell?_setCell_other _ _ _ _ (by first | exact addr_ne hN6 | exact addr_ne hN7 | exact addr_ne hNb | exact (addr_ne hN6).symm | exact (addr_ne hN7).symm | exact (addr_ne hNb).symm)).trans ((World.cell?_setCell_other _ _ _ _ (by first | exact addr_ne hN6 | exact addr_ne hN7 | exact addr_ne hNb | exact (addr_ne hN6).symm | exact (addr_ne hN7).symm | exact (addr_ne hNb).symm)).trans vx1), (World.cell?_setCell_other _ _ _ _ (by first | exact addr_ne hN6 | exact addr_ne hN7 | exact addr_ne hNb | exact (addr_ne hN6).symm | exact (addr_ne hN7).symm | exact (addr_ne hNb).symm)).trans ((World.cell?_setCell_other _ _ _ _ (by first | exact addr_ne hN6 | exact addr_ne hN7 | exact addr_ne hNb | exact (addr_ne hN6).symm | exact (addr_ne hN7).symm | exact (addr_ne hNb).symm)).trans vt0), (World.cell?_setCell_other _ _ _ _ (by first | exact addr_ne hN6 | exact addr_ne hN7 | exact addr_ne hNb | exact (addr_ne hN6).symm | exact (addr_ne hN7).symm | exact (addr_ne hNb).symm)).trans ((World.cell?_setCell_other _ _ _ _ (by first | exact addr_ne hN6 | exact addr_ne hN7 | exact addr_ne hNb | exact (addr_ne hN6).symm | exact (addr_ne hN7).symm | exact (addr_ne hNb).symm)).trans vt1), (World.cell?_setCell_other _ _ _ _ (by first | exact addr_ne hN6 | exact addr_ne hN7 | exact addr_ne hNb | exact (addr_ne hN6).symm | exact (addr_ne hN7).symm | exact (addr_ne hNb).symm)).trans ((World.cell?_setCell_other _ _ _ _ (by first | exact addr_ne hN6 | exact addr_ne hN7 | exact addr_ne hNb | exact (addr_ne hN6).symm | exact (addr_ne hN7).symm | exact (addr_ne hNb).symm)).trans vt2), (World.cell?_setCell_other _ _ _ _ (by first | exact addr_ne hN6 | exact addr_ne hN7 | exact addr_ne hNb | exact (addr_ne hN6).symm | exact (addr_ne hN7).symm | exact (addr_ne hNb).symm)).trans ((World.cell?_setCell_other _ _ _ _ (by first | exact addr_ne hN6 | exact addr_ne hN7 | exact addr_ne hNb | exact (addr_ne hN6).symm | exact (addr_ne hN7).symm | exact (addr_ne hNb).symm)).trans vt3), (World.cell?_setCell_other _ _ _ _ (by first | exact addr_ne hN6 | exact addr_ne hN7 | exact addr_ne hNb | exact (addr_ne hN6).symm | exact (addr_ne hN7).symm | exact (addr_ne hNb).symm)).trans ((World.cell?_setCell_other _ _ _ _ (by first | exact addr_ne hN6 | exact addr_ne hN7 | exact addr_ne hNb | exact (addr_ne hN6).symm | exact (addr_ne hN7).symm | exact (addr_ne hNb).symm)).trans vt4), (World.cell?_setCell_other _ _ _ _ (by first | exact addr_ne hN6 | exact addr_ne hN7 | exact addr_ne hNb | exact (addr_ne hN6).symm | exact (addr_ne hN7).symm | exact (addr_ne hNb).symm)).trans ((World.cell?_setCell_other _ _ _ _ (by first | exact addr_ne hN6 | exact addr_ne hN7 | exact addr_ne hNb | exact (addr_ne hN6).symm | exact (addr_ne hN7).symm | exact (addr_ne hNb).symm)).trans vt5)⟩)) (first | (go_at_call 40; refine (CB.out _ (below_drewN (Below.refl _ _) 1)).mono ?_; rintro e w6 ⟨d, he, hd, hb6'⟩; obtain ⟨u0, u1, u2, u3, u4, u5, rfl⟩ := six hd.1; have he' : e = .returned (.agg #[.slice u0.1 u0.2.1 u0.2.2, .slice u1.1 u1.2.1 u1.2.2, .slice u2.1 u2.2.1 u2.2.2, .slice u3.1 u3.2.1 u3.2.2, .slice u4.1 u4.2.1 u4.2.2, .slice u5.1 u5.2.1 u5.2.2]) := he; subst he'; have hb6 : Below w5.heap.size w5 w6 := (below_drewN (Below.refl _ _) 1).trans hb6'; have ya6 := (hb6.cell (p := ⟨g6, 1, none⟩) hg6).trans xa6; have yx0 := (hb6.cell (p := ⟨b, o, none⟩) hb5).trans xx0; have yx1 := (hb6.cell (p := ⟨b, o + 1, none⟩) hb5).trans xx1; have yt0 := (hb6.cell (p := ⟨g7, 0, none⟩) hg7).trans xt0; have yt1 := (hb6.cell (p := ⟨g7, 1, none⟩) hg7).trans xt1; have yt2 := (hb6.cell (p := ⟨g7, 2, none⟩) hg7).trans xt2; have yt3 := (hb6.cell (p := ⟨g7, 3, none⟩) hg7).trans xt3; have yt4 := (hb6.cell (p := ⟨g7, 4, none⟩) hg7).trans xt4; have yt5 := (hb6.cell (p := ⟨g7, 5, none⟩) hg7).trans xt5;  have HDU : Hid (DgAt w6 [u0, u1, u2, u3, u4, u5] (digitH P)) := hd; clear he hd hb6') | (go_at_call 37; refine (CM.out _ _ _ _ _ _ _ hb6 HDU.out).mono ?_; rintro e w7 ⟨d, he, hd, hb7'⟩; obtain ⟨e0, e1, e2, e3, e4, e5, rfl⟩ := six hd.1; have he' : e = .returned (.agg #[.slice e0.1 e0.2.1 e0.2.2, .slice e1.1 e1.2.1 e1.2.2, .slice e2.1 e2.2.1 e2.2.2, .slice e3.1 e3.2.1 e3.2.2, .slice e4.1 e4.2.1 e4.2.2, .slice e5.1 e5.2.1 e5.2.2]) := he; subst he'; have hb7 : Below w5.heap.size w5 w7 := hb6.trans (hb7'.mono hb6.size); have za6 := (hb7.cell (p := ⟨g6, 1, none⟩) hg6).trans xa6; have zx0 := (hb7.cell (p := ⟨b, o, none⟩) hb5).trans xx0; have zx1 := (hb7.cell (p := ⟨b, o + 1, none⟩) hb5).trans xx1; have zt0 := (hb7.cell (p := ⟨g7, 0, none⟩) hg7).trans xt0; have zt1 := (hb7.cell (p := ⟨g7, 1, none⟩) hg7).trans xt1; have zt2 := (hb7.cell (p := ⟨g7, 2, none⟩) hg7).trans xt2; have zt3 := (hb7.cell (p := ⟨g7, 3, none⟩) hg7).trans xt3; have zt4 := (hb7.cell (p := ⟨g7, 4, none⟩) hg7).trans xt4; have zt5 := (hb7.cell (p := ⟨g7, 5, none⟩) hg7).trans xt5;  have HDV : Hid (DgAt w7 [e0, e1, e2, e3, e4, e5] (outAt (digitH E) (digitH P))) := hd; clear he hd hb7') | (go_at_call 36; refine (CW.out _ _ _ _ _ _ _ hb7.size HDV.out).mono ?_; rintro e w8 ⟨u, rfl, hu, hb8'⟩; have hb8 : Below w5.heap.size w5 w8 := hb7.trans (hb8'.mono hb7.size); have va6 := (hb8.cell (p := ⟨g6, 1, none⟩) hg6).trans xa6; have vx0 := (hb8.cell (p := ⟨b, o, none⟩) hb5).trans xx0; have vx1 := (hb8.cell (p := ⟨b, o + 1, none⟩) hb5).trans xx1; have vt0 := (hb8.cell (p := ⟨g7, 0, none⟩) hg7).trans xt0; have vt1 := (hb8.cell (p := ⟨g7, 1, none⟩) hg7).trans xt1; have vt2 := (hb8.cell (p := ⟨g7, 2, none⟩) hg7).trans xt2; have vt3 := (hb8.cell (p := ⟨g7, 3, none⟩) hg7).trans xt3; have vt4 := (hb8.cell (p := ⟨g7, 4, none⟩) hg7).trans xt4; have vt5 := (hb8.cell (p := ⟨g7, 5, none⟩) hg7).trans xt5;  have HU : Hid (NewH w7.heap.size w8 u (popH h)) := hu; have m0 := (hb8.cell (p := ⟨w.heap.size, 0, none⟩) hN5).trans n0'; have m1 := (hb8.cell (p := ⟨w.heap.size, 1, none⟩) hN5).trans n1'; have q0 := (World.frozen?_of_block (a := ⟨w.heap.size, 0, none⟩) (hb8.block _ hN5)).trans f0'; have q1 := (World.frozen?_of_block (a := ⟨w.heap.size, 1, none⟩) (hb8.block _ hN5)).trans f1'; have hw57 := hb7.size; have hN8 := Nat.lt_of_lt_of_le hN5 hb8.size; clear hu hb8'))
  all_goals
    go_wp2
    refine bodyPost_ret (by simp [results, Tryd.results17, go_sem, m0, m1]; try rfl) rfl ?_
    refine ⟨_, rfl, ?_, ?_⟩
    · exact (HU.out.kept (gb_set (World.grownBy.refl _ _) _ _ _ _) (fun f e => by have := Option.some.inj e; omega)).weak (by omega)
    · have hb9 := HBW5.out.trans (hb8.mono HBW5.out.size)
      exact (hb9.setCell (p := ⟨w.heap.size, 0, none⟩) (Nat.le_refl _) _).setCell (p := ⟨w.heap.size, 1, none⟩) (Nat.le_refl _) _
/-- What is wrong with a heap that is to be popped. -/
def popE (h : List (Int × List (Int × Int))) : Nat := if binoE h = 0 then (if h = [] then 5 else 0) else binoE h
theorem dPop_bad (v : Value) (h : List (Int × List (Int × Int))) (k : Nat) (w : World) (H : HpAt w v h) (f : FitH h) (hk : popE h = k) (h0 : k ≠ 0) :
    Calls Tryd.prog 17 #[v] w fun e w' => e = .returned (.tuple #[.agg #[.int .i64 0, .int .i64 0], .slice none 0 0, .iface 56 (.int .i64 k)]) ∧ Below w.heap.size w w' := by
  obtain ⟨p, c, rfl⟩ := H.form
  have k1 := fun w1 (hb : Below w.heap.size w w1) => dcheck_any _ h w1 (H.below hb) f.1 f.2
  unfold popE at hk
  by_cases e1 : binoE h = 0
  · rw [if_pos e1] at hk
    rw [e1, errV_zero] at k1
    by_cases e2 : h = []
    · rw [if_pos e2] at hk
      subst hk
      subst e2
      exact dPop_B p c w k1
    · rw [if_neg e2] at hk; exact absurd hk.symm h0
  · rw [if_neg e1] at hk
    rw [errV_pos e1, hk] at k1
    exact dPop_A p _ c k w k1
theorem dPop_good (v : Value) (g : List TrL) (w : World) (H : HpAt w v (zH g)) (G : OkH g) (hn : g ≠ []) :
    Calls Tryd.prog 17 #[v] w fun e w' => ∃ (x : Int × Int) (l : List (Int × Int)) (r : Nat) (u : Value), e = .returned (.tuple #[.agg #[.int .i64 x.1, .int .i64 x.2], u, .nilIface]) ∧ g[atTo g g.length]? = some (r, x :: l) ∧ NewH w.heap.size w' u (popH g) ∧ Below w.heap.size w w' := by
  obtain ⟨p, c, hv⟩ := H.form
  rw [zH_len] at hv
  subst hv
  have k1 := fun w1 (hb : Below w.heap.size w w1) => dcheck_any _ _ w1 (H.below hb) G.fit.1 G.fit.2
  rw [binoE_ok G, errV_zero] at k1
  obtain ⟨r, ⟨x0, x1⟩, l, e, _⟩ := G.pop hn
  have hm := List.mem_of_getElem? e
  have hpos : 0 < g.length := List.length_pos_iff.2 hn
  refine (dPop_C p g.length c x0 x1 r _ l g w hpos (G.rank _ hm) (by simp) rfl G e rfl H k1 fun w1 hb => ?_).mono fun e' w' ⟨u, a1, a2, a3⟩ => ⟨(x0, x1), l, r, u, a1, e, a2, a3⟩
  refine (least_any _ g w w1 H hb G hn).mono fun e' w' ⟨r', l', q, c', a1, a2, a3, a4⟩ => ?_
  rw [e] at a2
  simp only [Option.some.injEq, Prod.mk.injEq] at a2
  obtain ⟨rfl, rfl⟩ := a2
  exact ⟨q, c', a1, a3, a4⟩
/-- What Pop tells: the least one, and what is left. -/
theorem dPop_ok (v : Value) (g : List TrL) (w : World) (H : HpAt w v (zH g)) (G : OkH g) (hn : g ≠ []) : ∃ x : Int × Int, OkH (popH g) ∧ (x :: itemsH (popH g)).Perm (itemsH g) ∧ (∀ y ∈ itemsH g, x.1 ≤ y.1) ∧
    Calls Tryd.prog 17 #[v] w fun e w' => ∃ u : Value, e = .returned (.tuple #[.agg #[.int .i64 x.1, .int .i64 x.2], u, .nilIface]) ∧ NewH w.heap.size w' u (popH g) ∧ Below w.heap.size w w' := by
  obtain ⟨r, x, l, e, _, _, _, o1, o2, o3⟩ := G.pop hn
  refine ⟨x, o1, o2, o3, (dPop_good v g w H G hn).mono fun e' w' ⟨x', l', r', u, a1, a2, a3, a4⟩ => ?_⟩
  rw [e] at a2
  simp only [Option.some.injEq, Prod.mk.injEq, List.cons.injEq] at a2
  obtain ⟨_, rfl, _⟩ := a2
  exact ⟨u, a1, a3, a4⟩
#print axioms dPop_ok
#print axioms dPop_bad
#print axioms dPop_good
end Go.Proofs.YtmkjalpgeljnkaaDoor

/-
  What the statements ask with: are two lists of items the same, or the same but for their order?
-/
namespace Go.Proofs.YtmkjalpgeljnkaaDoor
open Go.RowKit Go.Sort Go.Proofs

theorem ret_bb {a b : Bool} (h : a = b) : Ending.returned (.bool b) = .returned (.bool a) := by rw [h]

theorem equalIn_item (x0 x1 y0 y1 : Int) (w : World) :
    Sem.run Tryd.prog (Op.equalIn 10000 24 (.agg #[.int .i64 x0, .int .i64 x1]) (.agg #[.int .i64 y0, .int .i64 y1])) w = .ok (x0 == y0 && x1 == y1) w := by
  have u3 := Tryd.underlying3
  have a3 := Tryd.isAgg3
  have z3 := Tryd.sizeOf3
  have hS : Tryd.prog.underlying 24 = some (.struct (Tryd.prog.fieldsOf 24)) := by kernel_rfl
  have hp : Tryd.prog.stoodInHeld 24 = false := by kernel_rfl
  rw [show (10000 : Nat) = 9999 + 1 from rfl, run_equalIn_struct w 9999 24 _ _ hS hp]
  simp only [Program.fieldsOf, Tryd.underlying24]
  go_simp
  by_cases h1 : x0 = y0 <;> by_cases h2 : x1 = y1 <;> simp [h1, h2]
theorem eql_item (x0 x1 y0 y1 : Int) (w : World) :
    Sem.run Tryd.prog (binOp .eql 24 (.agg #[.int .i64 x0, .int .i64 x1]) (.agg #[.int .i64 y0, .int .i64 y1])) w = .ok (.bool (x0 == y0 && x1 == y1)) w := by
  rw [run_eql_struct, equalIn_item]; rfl
theorem neq_item (x0 x1 y0 y1 : Int) (w : World) :
    Sem.run Tryd.prog (binOp .neq 24 (.agg #[.int .i64 x0, .int .i64 x1]) (.agg #[.int .i64 y0, .int .i64 y1])) w = .ok (.bool (!(x0 == y0 && x1 == y1))) w := by
  rw [run_neq_struct, equalIn_item]; rfl
theorem guard_item (op : BinOp) (a b : Operand) (xs ys : Array Value) (w : World) : Sem.run Tryd.prog (eqGuard op 24 a b (.agg xs) (.agg ys)) w = .ok () w :=
  run_eqGuard_agg w op 24 a b xs ys (by kernel_rfl)

theorem items_ext {xs ys : Array (Int × Int)} (hs : xs.size = ys.size) (h : ∀ j, j < xs.size → xs[j]! = ys[j]!) : xs = ys :=
  Array.ext hs fun t h1 h2 => by have := h t h1; rwa [getElem!_pos xs t h1, getElem!_pos ys t h2] at this

theorem items_unlike (p1 p2 : Option Addr) (n m c1 c2 : Nat) (w : World) (h : n ≠ m) :
    Calls Tryd.prog 38 #[.slice p1 n c1, .slice p2 m c2] w fun e w' => e = .returned (.bool false) ∧ ∃ q, w' = w.drewN q := by
  have hz : ((n : Int) == (m : Int)) = false := beq_eq_false_iff_ne.2 (by omega)
  go_enter Tryd.func38, Tryd.ntmps38
  go_wp2
  go_ret
  exact ⟨rfl, 0, rfl⟩
theorem items_none (p1 p2 : Option Addr) (c1 c2 : Nat) (w : World) :
    Calls Tryd.prog 38 #[.slice p1 0 c1, .slice p2 0 c2] w fun e w' => e = .returned (.bool true) ∧ ∃ q, w' = w.drewN q := by
  go_enter Tryd.func38, Tryd.ntmps38
  go_wp2
  go_loop [5] (fun i => i = .int .i64 0) (fun _ => 0)
  case atStart => rfl
  case round =>
    subst hrel
    go_wp2
    go_ret
    exact ⟨rfl, 0, rfl⟩

set_option maxHeartbeats 2000000 in
theorem items_some (b1 o1 c1 b2 o2 c2 n : Nat) (xs ys : Array (Int × Int)) (w : World) (hx : RdAt w b1 o1 xs) (hy : RdAt w b2 o2 ys) (hn : Hid (xs.size = n)) (hm : Hid (ys.size = n)) (hsz : n ≤ 4611686018427387904) :
    Calls Tryd.prog 38 #[.slice (some ⟨b1, o1, none⟩) n c1, .slice (some ⟨b2, o2, none⟩) n c2] w fun e w' => e = .returned (.bool (decide (xs = ys))) ∧ ∃ q, w' = w.drewN q := by
  have HX : Aside _ := hx
  have HY : Aside _ := hy
  clear hx hy
  have k1 := eql_item
  have k2 := neq_item
  have k3 := equalIn_item
  have k4 := guard_item
  go_enter Tryd.func38, Tryd.ntmps38
  go_wp2
  go_loopg [5] n (fun g vi wr => ∃ i q : Nat, vi = .int .i64 i ∧ i + g = n ∧ wr = w.drewN q ∧ Aside (∀ j, j < i → xs[j]! = ys[j]!))
  case atStart => exact ⟨0, 0, rfl, by omega, rfl, (show Aside _ from fun j hj => by omega)⟩
  case round =>
    obtain ⟨i, q, rfl, hg, rfl, HO⟩ := hrel
    by_cases hlt : i < n
    · have hlz : (i : Int) < (n : Int) := by omega
      obtain ⟨x0, x1, hx⟩ : ∃ x y, xs[i]! = (x, y) := ⟨_, _, rfl⟩
      obtain ⟨y0, y1, hy⟩ : ∃ x y, ys[i]! = (x, y) := ⟨_, _, rfl⟩
      have cx := HX.out.2 i (by rw [hn.out]; exact hlt)
      have cy := HY.out.2 i (by rw [hm.out]; exact hlt)
      rw [hx] at cx
      rw [hy] at cy
      obtain ⟨cx0, cx1⟩ := cx
      obtain ⟨cy0, cy1⟩ := cy
      have HXX : Hid _ := hx
      have HYY : Hid _ := hy
      clear hx hy
      obtain ⟨r, hr⟩ : ∃ r, (x0 == y0 && x1 == y1) = r := ⟨_, rfl⟩
      have HR : Hid ((x0 == y0 && x1 == y1) = r) := hr
      have k2' := fun w => neq_item x0 x1 y0 y1 w
      have k3' := fun w => equalIn_item x0 x1 y0 y1 w
      rw [hr] at k2' k3'
      clear hr k1 k2 k3
      cases r
      · have ef : decide (xs = ys) = false := decide_eq_false fun e => by
          have h1 := HXX.out
          have h2 := HYY.out
          rw [e, h2] at h1
          cases h1
          have := HR.out
          simp at this
        have EF : Hid _ := ef
        clear ef
        go_wp2_with fail
        go_quiet (fail)
        go_wp2
        go_ret
        exact ⟨ret_bb EF.out, q + nq, by first | rfl | rw [World.drewN_drewN]⟩
      · go_wp2_with fail
        go_quiet (fail)
        go_wp2
        go_roundg (n - (i + 1))
        case measure => omega
        case rel =>
          refine ⟨i + 1, q + nq, by go_num, by omega, by first | rfl | rw [World.drewN_drewN], (show Aside _ from fun j hj => ?_)⟩
          rcases Nat.lt_or_ge j i with c | c
          · exact HO.out j c
          · obtain rfl : j = i := by omega
            rw [HXX.out, HYY.out]
            have := HR.out
            simp at this
            rw [this.1, this.2]
    · have hlz : ¬ (i : Int) < (n : Int) := by omega
      have ef : decide (xs = ys) = true := decide_eq_true (items_ext (hn.out.trans hm.out.symm) fun j hj => HO.out j (by rw [hn.out] at hj; omega))
      have EF : Hid _ := ef
      clear ef
      go_wp2
      go_ret
      exact ⟨ret_bb EF.out, q, rfl⟩

theorem items_any (u v : Value) (xs ys : Array (Int × Int)) (w : World) (hx : Sl w u xs) (hy : Sl w v ys) (hn : xs.size ≤ 4611686018427387904) :
    Calls Tryd.prog 38 #[u, v] w fun e w' => e = .returned (.bool (decide (xs = ys))) ∧ ∃ q, w' = w.drewN q := by
  obtain ⟨p1, c1, rfl, _, hx⟩ := hx
  obtain ⟨p2, c2, rfl, _, hy⟩ := hy
  by_cases hs : xs.size = ys.size
  · by_cases h0 : xs.size = 0
    · rw [← hs, h0, decide_eq_true (items_ext hs fun j hj => by omega)]
      exact items_none p1 p2 c1 c2 w
    · rcases hx with hx | ⟨b1, o1, rfl, hx⟩
      · exact absurd hx h0
      rcases hy with hy | ⟨b2, o2, rfl, hy⟩
      · exact absurd (hs.trans hy) h0
      rw [← hs]
      exact items_some b1 o1 c1 b2 o2 c2 xs.size xs ys w hx hy rfl hs.symm hn
  · rw [decide_eq_false fun e => hs (by rw [e])]
    exact items_unlike p1 p2 _ _ c1 c2 w hs
end Go.Proofs.YtmkjalpgeljnkaaDoor

/-
  The statements' own Trees and TreeItems: are two heaps of trees the same; all items of one.
-/
namespace Go.Proofs.YtmkjalpgeljnkaaDoor
open Go.RowKit Go.Sort Go.Proofs

theorem trees_none (p1 p2 : Option Addr) (c1 c2 : Nat) (w : World) :
    Calls Tryd.prog 13 #[.slice p1 0 c1, .slice p2 0 c2] w fun e w' => e = .returned (.bool true) ∧ ∃ q, w' = w.drewN q := by
  go_enter Tryd.func13, Tryd.ntmps13
  go_wp2
  go_loop [5] (fun i => i = .int .i64 0) (fun _ => 0)
  case atStart => rfl
  case round =>
    subst hrel
    go_wp2
    go_ret
    exact ⟨rfl, 0, rfl⟩
set_option maxHeartbeats 4000000 in
theorem trees_some (p1 p2 : Option Addr) (c1 c2 n : Nat) (h : List (Int × List (Int × Int))) (w : World) (HX : Hid (HpAt w (.slice p1 n c1) h)) (HY : Hid (HpAt w (.slice p2 n c2) h)) (hn : Hid (h.length = n)) (hsz : n ≤ 1000) (HL : Hid (∀ t ∈ h, t.2.length ≤ 1000)) :
    Calls Tryd.prog 13 #[.slice p1 n c1, .slice p2 n c2] w fun e w' => e = .returned (.bool true) ∧ ∃ q, w' = w.drewN q := by
  go_enter Tryd.func13, Tryd.ntmps13
  go_wp2
  go_loopg [5] n (fun g vi wr => ∃ i q : Nat, vi = .int .i64 i ∧ i ≤ n ∧ n - i ≤ g ∧ wr = w.drewN q)
  case atStart => exact ⟨0, 0, rfl, Nat.zero_le _, by omega, rfl⟩
  case round =>
    obtain ⟨i, q, rfl, hin, hg, rfl⟩ := hrel
    by_cases hlt : i < n
    · have hlz : (i : Int) < (n : Int) := by omega
      obtain ⟨⟨r, l⟩, hx⟩ : ∃ x, h[i]? = some x := ⟨h[i]'(by rw [hn.out]; omega), by simp⟩
      obtain ⟨b1, o1, q1, d1, rfl, hb1, x0, x1, sx⟩ := HX.out.tree hx
      obtain ⟨b2, o2, q2, d2, rfl, hb2, y0, y1, sy⟩ := HY.out.tree hx
      have hl := HL.out (r, l) (List.mem_of_getElem? hx)
      simp only at hl
      have sx' := sx.below (below_drewN (Below.refl _ _) q)
      have sy' := sy.below (below_drewN (Below.refl _ _) q)
      have x0' : (w.drewN q).cell? ⟨b1, o1 + i * 2, none⟩ = some (.int .i64 r) := x0
      have x1' : (w.drewN q).cell? ⟨b1, o1 + i * 2 + 1, none⟩ = some (.slice q1 l.length d1) := x1
      have y0' : (w.drewN q).cell? ⟨b2, o2 + i * 2, none⟩ = some (.int .i64 r) := y0
      have y1' : (w.drewN q).cell? ⟨b2, o2 + i * 2 + 1, none⟩ = some (.slice q2 l.length d2) := y1
      obtain ⟨wq, hwq⟩ : ∃ wq, w.drewN q = wq := ⟨_, rfl⟩
      rw [hwq] at sx' sy' x0' x1' y0' y1' ⊢
      have HWQ : Hid (w.drewN q = wq) := hwq
      clear x0 x1 y0 y1 sx sy hwq
      have ci : ∀ k, Calls Tryd.prog 38 #[.slice q1 l.length d1, .slice q2 l.length d2] (wq.drewN k) fun e w' => e = .returned (.bool true) ∧ ∃ m, w' = wq.drewN m := fun k => by
        have := items_any _ _ l.toArray l.toArray (wq.drewN k) (sx'.below (below_drewN (Below.refl _ _) k)) (sy'.below (below_drewN (Below.refl _ _) k)) (by simp; omega)
        rw [decide_eq_true rfl] at this
        exact this.mono fun e w' ⟨a, m, b⟩ => ⟨a, k + m, by rw [b, World.drewN_drewN]⟩
      have hrr : (r != r) = false := bne_self_eq_false r
      generalize l.length = ln at *
      clear hx sx' sy' hl
      go_wp2_with fail
      go_quiet (first | (go_at_call 38; exact ci _))
      go_wp2
      go_roundg (n - (i + 1))
      case measure => omega
      case rel => exact ⟨i + 1, q + nq, by go_num, by omega, Nat.le_refl _, by rw [← HWQ.out, World.drewN_drewN]⟩
    · have hlz : ¬ (i : Int) < (n : Int) := by omega
      go_wp2
      go_ret
      exact ⟨rfl, q, rfl⟩
theorem trees_same (u v : Value) (h : List (Int × List (Int × Int))) (w : World) (hu : HpAt w u h) (hv : HpAt w v h) (hn : h.length ≤ 1000) (hl : ∀ t ∈ h, t.2.length ≤ 1000) :
    Calls Tryd.prog 13 #[u, v] w fun e w' => e = .returned (.bool true) ∧ Below w.heap.size w w' := by
  obtain ⟨p1, c1, rfl⟩ := hu.form
  obtain ⟨p2, c2, rfl⟩ := hv.form
  exact (trees_some p1 p2 c1 c2 h.length h w hu hv rfl hn hl).mono fun e w' ⟨a, q, b⟩ => ⟨a, by rw [b]; exact below_drewN (Below.refl _ _) q⟩
/-- All items, tree by tree. -/
def allZ (h : List (Int × List (Int × Int))) : List (Int × Int) := h.flatMap (·.2)
theorem allZ_succ {h : List (Int × List (Int × Int))} {i : Nat} {r : Int} {l : List (Int × Int)} (hi : h[i]? = some (r, l)) : allZ (h.take (i + 1)) = allZ (h.take i) ++ l := by
  obtain ⟨hlt, e⟩ := List.getElem?_eq_some_iff.1 hi
  unfold allZ
  rw [List.take_succ_eq_append_getElem hlt, List.flatMap_append, e]
  simp
theorem allZ_le (h : List (Int × List (Int × Int))) (i : Nat) : (allZ (h.take i)).length ≤ (allZ h).length := by
  have e : allZ h = allZ (h.take i) ++ allZ (h.drop i) := by unfold allZ; rw [← List.flatMap_append, List.take_append_drop]
  rw [e, List.length_append]; omega
set_option maxHeartbeats 4000000 in
theorem treeItems_some (p : Option Addr) (n cap : Nat) (h : List (Int × List (Int × Int))) (w : World) (hn : n ≤ 1000) (HN : Hid (h.length = n)) (HA : Hid ((allZ h).length ≤ 1000)) (HH : Hid (HpAt w (.slice p n cap) h)) :
    Calls Tryd.prog 21 #[.slice p n cap] w fun e w' => ∃ u, e = .returned u ∧ OwnI w' w.heap.size u (allZ h) ∧ Below w.heap.size w w' := by
  go_enter Tryd.func21, Tryd.ntmps21
  go_wp2
  go_loopg [3, 4] n (fun gg vo vi wr => ∃ i : Nat, vi = .int .i64 i ∧ i ≤ n ∧ n - i ≤ gg ∧ Hid (OwnI wr w.heap.size vo (allZ (h.take i))) ∧ Hid (Below w.heap.size w wr))
  case atStart => exact ⟨0, rfl, Nat.zero_le _, by omega, (show OwnI _ _ _ _ by simpa [allZ] using OwnI.nil _ _), Below.refl _ _⟩
  case round =>
    obtain ⟨i, rfl, hin, hg, HO, HB⟩ := hrel
    by_cases hlt : i < n
    · have hlz : (i : Int) < (n : Int) := by omega
      obtain ⟨⟨r, l⟩, hx⟩ : ∃ x, h[i]? = some x := ⟨h[i]'(by rw [HN.out]; omega), by simp⟩
      obtain ⟨blk, off, q, c, rfl, hb, c0, c1, sl⟩ := HH.out.tree hx
      have t1 := (HB.out.cell (p := ⟨blk, off + i * 2 + 1, none⟩) hb).trans c1
      have HE : Hid (allZ (h.take (i + 1)) = allZ (h.take i) ++ l) := allZ_succ hx
      have HLE : Hid ((allZ (h.take i)).length + l.length ≤ 1000) := by show _ ≤ _; have h1 := allZ_le h (i + 1); rw [HE.out, List.length_append] at h1; have := HA.out; omega
      have HSL : Hid (Sl wr (.slice q l.length c) l.toArray) := sl.below HB.out
      clear hx sl c0 c1
      go_wp2_with (first | (at_builtin; refine wpList_append_sl rfl (.tmp 11) (.tmp 16) rfl w.heap.size u3 _ (allZ (h.take i)) l.toArray rfl rfl HO.out HSL.out (by rw [List.size_toArray]; have := HLE.out; omega) HB.out.size ?_; intro v2 w2 h2 hg2; have HB2 : Hid (Below w.heap.size w w2) := HB.out.trans (below_of_grown HO.out hg2 (Nat.le_refl _) HB.out.size); have HO2 : Hid (OwnI w2 w.heap.size v2 (allZ (h.take (i + 1)))) := (by show OwnI _ _ _ _; rw [HE.out]; exact h2); clear h2 hg2))
      go_roundg (n - (i + 1))
      case measure => omega
      case rel => exact ⟨i + 1, by go_num, by omega, Nat.le_refl _, HO2, HB2⟩
    · have hlz : ¬ (i : Int) < (n : Int) := by omega
      have HO' : Hid (OwnI wr w.heap.size u3 (allZ h)) := by show OwnI _ _ _ _; have := HO.out; rw [List.take_of_length_le (by rw [HN.out]; omega)] at this; exact this
      go_wp2
      go_ret
      exact ⟨_, rfl, HO'.out, HB.out⟩
#print axioms treeItems_some
end Go.Proofs.YtmkjalpgeljnkaaDoor

/-
  Plain facts of heaps of trees: the digits of a size; the least root; popped one by one.
-/
namespace Go.Proofs.YtmkjalpgeljnkaaDoor

theorem itemsH_len {h : List TrL} (H : IsH h) : (itemsH h).length = (h.map fun t => 2 ^ t.1).sum := by
  induction h with
  | nil => rfl
  | cons t h ih =>
    rw [itemsH_cons, List.length_append, ih H.tail, (H.trees t List.mem_cons_self).len]
    simp
/-- Trees whose ranks are r and more: their size, cut at rank r. -/
theorem digits_cons {h : List TrL} {r n : Nat} (H : IsH h) (hr : ∀ t ∈ h, r ≤ t.1) (hs : (itemsH h).length = n * 2 ^ r) :
    (n % 2 = 1 → ∃ l h', h = (r, l) :: h' ∧ IsT r l ∧ (∀ t ∈ h', r + 1 ≤ t.1) ∧ (itemsH h').length = (n / 2) * 2 ^ (r + 1)) ∧
    (n % 2 = 0 → (∀ t ∈ h, r + 1 ≤ t.1) ∧ (itemsH h).length = (n / 2) * 2 ^ (r + 1)) := by
  have hp := two_pos r
  have hs2 : 2 ^ (r + 1) = 2 * 2 ^ r := by rw [Nat.pow_succ]; omega
  -- a heap of greater ranks has an even size
  have even : ∀ (g : List TrL), IsH g → (∀ t ∈ g, r + 1 ≤ t.1) → ∃ m, (itemsH g).length = m * 2 ^ (r + 1) := by
    intro g
    induction g with
    | nil => intro _ _; exact ⟨0, by simp [itemsH]⟩
    | cons t g ih =>
      intro G hg
      obtain ⟨m, hm⟩ := ih G.tail fun u hu => hg u (List.mem_cons_of_mem _ hu)
      have hl := (G.trees t List.mem_cons_self).len
      have ht := hg t List.mem_cons_self
      refine ⟨2 ^ (t.1 - (r + 1)) + m, ?_⟩
      rw [itemsH_cons, List.length_append, hl, hm, Nat.add_mul, ← Nat.pow_add, Nat.sub_add_cancel ht]
  cases h with
  | nil =>
    have hn : n = 0 := by
      rw [itemsH_nil] at hs
      rcases Nat.eq_zero_or_pos n with q | q
      · exact q
      · have := Nat.mul_le_mul q hp
        simp at hs this
        omega
    subst hn
    exact ⟨fun q => absurd q (by decide), fun _ => ⟨fun _ h => (by cases h), by simp [itemsH]⟩⟩
  | cons t h =>
    obtain ⟨q, l⟩ := t
    have hq := hr (q, l) List.mem_cons_self
    simp only at hq
    have hrise := (List.pairwise_cons.1 H.rise).1
    have hgt : ∀ u ∈ h, q + 1 ≤ u.1 := fun u hu => hrise u hu
    have ht := H.trees (q, l) List.mem_cons_self
    rcases Nat.lt_or_eq_of_le hq with hlt | rfl
    · obtain ⟨m, hm⟩ := even ((q, l) :: h) H fun u hu => by
        rcases List.mem_cons.1 hu with rfl | k
        · exact hlt
        · have := hgt u k; omega
      have e : n = 2 * m := by
        rw [hs, hs2, ← Nat.mul_assoc] at hm
        have := Nat.eq_of_mul_eq_mul_right hp hm
        omega
      refine ⟨fun k => by omega, fun _ => ⟨fun u hu => ?_, ?_⟩⟩
      · rcases List.mem_cons.1 hu with rfl | k
        · exact hlt
        · have := hgt u k; omega
      · rw [hm, e]; congr 1; omega
    · obtain ⟨m, hm⟩ := even h H.tail hgt
      have hl := ht.len
      have e : n = 2 * m + 1 := by
        rw [itemsH_cons, List.length_append, hm, hl, hs2, ← Nat.mul_assoc] at hs
        have : (2 * m + 1) * 2 ^ r = n * 2 ^ r := by rw [Nat.add_mul, Nat.one_mul, Nat.mul_comm 2 m, Nat.add_comm]; exact hs
        exact (Nat.eq_of_mul_eq_mul_right hp this).symm
      refine ⟨fun _ => ⟨l, h, rfl, ht, hgt, ?_⟩, fun k => by omega⟩
      rw [hm, e]; congr 1; omega
end Go.Proofs.YtmkjalpgeljnkaaDoor

/-
  The statements' own heaps of trees: items pushed one by one; a closed fact.
-/
namespace Go.Proofs.YtmkjalpgeljnkaaDoor
open Go.RowKit Go.Sort Go.Proofs

theorem allZ_zH (g : List TrL) : allZ (zH g) = itemsH g := by
  unfold allZ zH itemsH
  rw [List.flatMap_map]
/-- The heap g has the first i of the items xs, and they are all right. -/
structure Plants (xs : Array (Int × Int)) (i : Nat) (g : List TrL) : Prop where
  ok : OkH g
  size : (itemsH g).length = i
  perm : (itemsH g).Perm (xs.toList.take i)
  right : ∀ x ∈ xs.toList.take i, outB x = false
theorem OkH.nil : OkH [] := ⟨IsH.nil, fun t h => (by cases h), fun x h => (by simp [itemsH] at h), (by simp [itemsH])⟩
theorem Plants.start (xs : Array (Int × Int)) : Plants xs 0 [] := ⟨OkH.nil, rfl, by simp [itemsH], by simp⟩
theorem Plants.push {xs : Array (Int × Int)} {i : Nat} {g : List TrL} (h : Plants xs i g) (hi : i < xs.size) (h60 : i < 60) {x0 x1 : Int} (e : xs[i]! = (x0, x1)) (hx : outB (x0, x1) = false) : Plants xs (i + 1) (meldH g (aloneH (x0, x1))) := by
  have hl : i < xs.toList.length := by simpa using hi
  have e1 : xs.toList.take (i + 1) = xs.toList.take i ++ [(x0, x1)] := by rw [List.take_succ_eq_append_getElem hl, getD_toList xs i hl, e]
  have hs := h.size
  obtain ⟨o1, o2⟩ := h.ok.meld (alone_ok hx) (by simp [itemsH] at hs ⊢; omega)
  refine ⟨o1, ?_, ?_, ?_⟩
  · rw [o2.length_eq, List.length_append, hs]; simp [itemsH]
  · rw [e1]
    exact o2.trans (List.Perm.append h.perm (by simp [itemsH]))
  · rw [e1]
    intro x hm
    rcases List.mem_append.1 hm with q | q
    · exact h.right x q
    · rw [List.mem_singleton.1 q]; exact hx
theorem Plants.all {xs : Array (Int × Int)} {g : List TrL} (h : Plants xs xs.size g) (h60 : xs.size ≤ 60) : wrong xs = 0 := by
  have ha : anyOut xs = false := by
    unfold anyOut
    rw [List.any_eq_false]
    intro x hx
    rw [h.right x (by rw [List.take_of_length_le (by simp)]; exact hx)]
    simp
  unfold wrong; rw [if_neg (by omega), ha]; rfl
theorem wrong_outB {xs : Array (Int × Int)} {i : Nat} (hi : i < xs.size) (hx : outB xs[i]! = true) : wrong xs ≠ 0 := by
  unfold wrong
  rw [anyOut_true hi hx]
  split <;> simp
/-- What planted tells. -/
def PlantR (xs : Array (Int × Int)) (e : Ending) (w' : World) : Prop :=
  (wrong xs = 0 ∧ ∃ p m c g, e = .returned (.tuple #[.slice p m c, .bool true]) ∧ HpAt w' (.slice p m c) (zH g) ∧ Plants xs xs.size g) ∨
    (wrong xs ≠ 0 ∧ ∃ p m c, e = .returned (.tuple #[.slice p m c, .bool false]))

set_option maxHeartbeats 16000000 in
set_option maxRecDepth 4000 in
theorem planted_some (p : Option Addr) (n cap : Nat) (xs : Array (Int × Int)) (w : World) (hbig : n ≤ 9223372036854775807) (HN : Hid (xs.size = n)) (HS : Hid (Sl w (.slice p n cap) xs)) :
    Calls Tryd.prog 19 #[.slice p n cap] w fun e w' => PlantR xs e w' ∧ Below w.heap.size w w' := by
  go_enter Tryd.func19, Tryd.ntmps19
  go_wp2
  go_loopg [4, 5] 60 (fun gg vh vi wr => ∃ (i m ch : Nat) (ph : Option Addr), vh = .slice ph m ch ∧ vi = .int .i64 i ∧ i + gg = 60 ∧ i ≤ n ∧ ∃ g : List TrL, Hid (HpAt wr (.slice ph m ch) (zH g)) ∧ Hid (Plants xs i g) ∧ Hid (Below w.heap.size w wr))
  case atStart => exact ⟨0, 0, 0, none, rfl, rfl, by omega, Nat.zero_le _, [], HpAt.nil _ _ _, Plants.start xs, Below.refl _ _⟩
  case round =>
    obtain ⟨i, m, ch, ph, rfl, rfl, hg, hin, g, HSL, HG, HB⟩ := hrel
    by_cases hlt : i < n
    · have hlz : (i : Int) < (n : Int) := by omega
      by_cases h60 : i < 60
      · have h60z : (i : Int) < 60 := by omega
        obtain ⟨blk, off, hp, hr⟩ : ∃ blk off, p = some ⟨blk, off, none⟩ ∧ RdAt w blk off xs := by
          obtain ⟨p', c', e, _, h0 | ⟨blk, off, rfl, hr⟩⟩ := HS.out
          · rw [HN.out] at h0; omega
          · simp only [Value.slice.injEq] at e; exact ⟨blk, off, e.1, hr⟩
        subst hp
        have hrr := hr.below HB.out hr.1
        obtain ⟨x0, x1, hx⟩ : ∃ x y, xs[i]! = (x, y) := ⟨_, _, rfl⟩
        obtain ⟨cx0, cx1⟩ := hrr.2 i (by rw [HN.out]; exact hlt)
        rw [hx] at cx0 cx1
        cases ho : outB (x0, x1)
        · have cP := dPush_good _ x0 x1 g wr HSL.out HG.out.ok ho (by rw [HG.out.size]; exact h60)
          have HG' : Hid (Plants xs (i + 1) (meldH g (aloneH (x0, x1)))) := HG.out.push (by rw [HN.out]; exact hlt) h60 hx ho
          clear hx ho hrr hr
          go_wp2_with fail
          refine cP.mono ?_
          rintro e w2 ⟨v2, rfl, hn2, hb2'⟩
          have HB2 : Hid (Below w.heap.size w w2) := HB.out.trans (hb2'.mono HB.out.size)
          have HS2 : Hid (HpAt w2 v2 (zH (meldH g (aloneH (x0, x1))))) := hn2.heap
          obtain ⟨p2, c2, hv2⟩ := HS2.out.form
          clear hn2 hb2' cP
          subst hv2
          generalize (zH (meldH g (aloneH (x0, x1)))).length = m2 at *
          go_wp2
          go_roundg (60 - (i + 1))
          case measure => omega
          case rel => exact ⟨i + 1, m2, c2, p2, rfl, by go_num, by omega, by omega, _, HS2, HG', HB2⟩
        · have cP := dPush_bad _ x0 x1 _ 1 wr HSL.out HG.out.ok.fit (by unfold meldE; rw [if_pos (binoE_ok HG.out.ok), if_neg (by rw [alone_bad ho]; decide), alone_bad ho]) (by decide)
          have HW : Hid (wrong xs ≠ 0) := wrong_outB (i := i) (by rw [HN.out]; exact hlt) (by rw [hx]; exact ho)
          clear hx ho hrr hr
          go_wp2_with fail
          refine cP.mono ?_
          rintro e w2 ⟨rfl, hb2'⟩
          have hb2 := HB.out.trans (hb2'.mono HB.out.size)
          go_wp2
          go_ret2
          exact ⟨Or.inr ⟨HW.out, _, _, _, rfl⟩, hb2⟩
      · have h60z : ¬ (i : Int) < 60 := by omega
        obtain rfl : i = 60 := by omega
        have hiq : ((60 : Int) == (n : Int)) = false := beq_eq_false_iff_ne.2 (by omega)
        have HW : Hid (wrong xs ≠ 0) := by show wrong xs ≠ 0; unfold wrong; rw [if_pos (by rw [HN.out]; omega)]; decide
        obtain ⟨pm, cm, em⟩ := HSL.out.form
        rw [zH_len] at em
        have hml : m = g.length := by simp only [Value.slice.injEq] at em; exact em.2.1
        have cT := treeItems_some ph m ch (zH g) wr (by have := HG.out.ok.len_le; omega) (by show _ = _; rw [zH_len]; exact hml.symm) (by show _ ≤ _; rw [allZ_zH, HG.out.size]; omega) HSL
        have HLZ : Hid ((allZ (zH g)).length = 60) := by show _ = _; rw [allZ_zH]; exact HG.out.size
        clear em hml
        go_wp2_with fail
        refine cT.mono ?_
        rintro e w2 ⟨u, rfl, hu, hb2'⟩
        have hb2 := HB.out.trans (hb2'.mono HB.out.size)
        obtain ⟨pu, cu, eu, _⟩ := hu.sl
        rw [List.size_toArray, HLZ.out] at eu
        subst eu
        clear hu hb2' cT
        go_wp2
        go_ret2
        exact ⟨Or.inr ⟨HW.out, _, _, _, rfl⟩, hb2⟩
    · have hlz : ¬ (i : Int) < (n : Int) := by omega
      obtain rfl : i = n := by omega
      have HGN : Hid (Plants xs xs.size g) := by show Plants _ _ _; rw [HN.out]; exact HG.out
      have hbb : ((i : Int) == (i : Int)) = true := beq_self_eq_true _
      obtain ⟨pm, cm, em⟩ := HSL.out.form
      rw [zH_len] at em
      have hml : m = g.length := by simp only [Value.slice.injEq] at em; exact em.2.1
      have cT := treeItems_some ph m ch (zH g) wr (by have := HG.out.ok.len_le; omega) (by show _ = _; rw [zH_len]; exact hml.symm) (by show _ ≤ _; rw [allZ_zH, HG.out.size]; omega) HSL
      have HLZ : Hid ((allZ (zH g)).length = i) := by show _ = _; rw [allZ_zH]; exact HG.out.size
      clear em hml
      go_wp2_with fail
      refine cT.mono ?_
      rintro e w2 ⟨u, rfl, hu, hb2'⟩
      have hb2 := HB.out.trans (hb2'.mono HB.out.size)
      have HS2 : Hid (HpAt w2 (.slice ph m ch) (zH g)) := HSL.out.below hb2'
      obtain ⟨pu, cu, eu, _⟩ := hu.sl
      rw [List.size_toArray, HLZ.out] at eu
      subst eu
      clear hu hb2' cT
      go_wp2
      go_ret2
      exact ⟨Or.inl ⟨HGN.out.all (by rw [HN.out]; omega), ph, m, ch, g, rfl, HS2.out, HGN.out⟩, hb2⟩
theorem planted_good (v : Value) (xs : Array (Int × Int)) (w : World) (h : Sl w v xs) (h0 : wrong xs = 0) :
    Calls Tryd.prog 19 #[v] w fun e w' => ∃ p m c g, e = .returned (.tuple #[.slice p m c, .bool true]) ∧ HpAt w' (.slice p m c) (zH g) ∧ Plants xs xs.size g ∧ Below w.heap.size w w' := by
  obtain ⟨p, cap, rfl, hcap, hp⟩ := id h
  refine (planted_some p xs.size cap xs w (by have := wrong_le h0; omega) rfl h).mono ?_
  rintro e w' ⟨⟨_, p, m, c, g, a, b, d⟩ | ⟨q, _⟩, hb⟩
  · exact ⟨p, m, c, g, a, b, d, hb⟩
  · exact absurd h0 q
theorem planted_bad (v : Value) (xs : Array (Int × Int)) (w : World) (h : Sl w v xs) (hbig : xs.size ≤ 9223372036854775807) (h0 : wrong xs ≠ 0) :
    Calls Tryd.prog 19 #[v] w fun e w' => ∃ p m c, e = .returned (.tuple #[.slice p m c, .bool false]) ∧ Below w.heap.size w w' := by
  obtain ⟨p, cap, rfl, hcap, hp⟩ := id h
  refine (planted_some p xs.size cap xs w hbig rfl h).mono ?_
  rintro e w' ⟨⟨q, _⟩ | ⟨_, p, m, c, a⟩, hb⟩
  · exact absurd q h0
  · exact ⟨p, m, c, a, hb⟩
theorem rd_twoP (w : World) (x0 x1 y0 y1 : Int) : RdAt (w.alloc (.cells #[.int .i64 x0, .int .i64 x1, .int .i64 y0, .int .i64 y1] 24)) w.heap.size 0 #[(x0, x1), (y0, y1)] := by
  refine ⟨by simp, fun i hi => ?_⟩
  match i, hi with
  | 0, _ => exact ⟨by simp, by simp⟩
  | 1, _ => exact ⟨by simp, by simp⟩
  | i + 2, hi => exact absurd hi (by simp)
theorem twoOfP (a b : Int) (w : World) : Calls Tryd.prog 41 #[.int .i64 a, .int .i64 b] w fun e w' =>
    e = .returned (.slice (some ⟨w.heap.size, 0, none⟩) 2 2) ∧ w' = w.alloc (.cells #[.int .i64 a, .int .i64 1, .int .i64 b, .int .i64 2] 24) := by
  go_enter Tryd.func41, Tryd.ntmps41
  go_wp2
  go_ret
  exact ⟨rfl, rfl⟩
/-- Of two items there is one tree, of rank 1. -/
theorem two_tree {g : List TrL} (h : OkH g) (hs : (itemsH g).length = 2) : ∃ l, g = [(1, l)] := by
  obtain ⟨_, h0⟩ := digits_cons (r := 0) (n := 2) h.isH (fun t _ => Nat.zero_le _) hs
  obtain ⟨h1, h2⟩ := h0 (by decide)
  obtain ⟨h3, _⟩ := digits_cons (r := 1) (n := 1) h.isH h1 hs
  obtain ⟨l, g', rfl, _, h4, h5⟩ := h3 (by decide)
  have : g' = [] := by
    cases g' with
    | nil => rfl
    | cons t g' =>
      have hT := h.isH.tail.trees t List.mem_cons_self
      have hp := two_pos t.1
      have hl := hT.len
      rw [itemsH_cons, List.length_append] at h5
      have h6 : t.2.length + (itemsH g').length = 0 := h5
      omega
  rw [this]
  exact ⟨l, rfl⟩
set_option maxHeartbeats 4000000 in
theorem binoFact_any (w : World) : Calls Tryd.prog 18 #[] w fun e w' => e = .returned (.bool true) ∧ Below w.heap.size w w' := by
  have hc := planted_good _ #[(5, 1), (3, 2)] _ (Sl.of_rd (cap := 2) (rd_twoP w 5 1 3 2) (by decide)) (by decide)
  change Calls Tryd.prog 19 #[.slice (some ⟨w.heap.size, 0, none⟩) 2 2] _ (fun e w' => ∃ p m c g, e = .returned (.tuple #[.slice p m c, .bool true]) ∧ HpAt w' (.slice p m c) (zH g) ∧ Plants _ 2 g ∧ _) at hc
  go_enter Tryd.func18, Tryd.ntmps18
  go_wp2_with (first | (go_at_call 41; refine (twoOfP 5 3 _).mono ?_; rintro e w1 ⟨rfl, rfl⟩))
  refine hc.mono ?_
  rintro e w2 ⟨p, m, c, g, rfl, hs, hg, hb⟩
  obtain ⟨l, rfl⟩ := two_tree hg.ok hg.size
  obtain ⟨pm, cm, em⟩ := hs.form
  have hm : m = 1 := by simp only [Value.slice.injEq] at em; exact em.2.1
  subst hm
  obtain ⟨blk, off, q, c', rfl, hblk, c0, _⟩ := hs.tree (i := 0) (r := 1) (l := l) rfl
  simp only [Nat.zero_mul, Nat.add_zero] at c0
  clear hs hg hc em
  go_wp2
  go_ret
  exact ⟨rfl, ((Below.refl _ _).alloc (Nat.le_refl _) _).trans (hb.mono (by simp))⟩
#print axioms binoFact_any
end Go.Proofs.YtmkjalpgeljnkaaDoor

/-
  Are two lists of items the same but for their order? And a list of two.
-/
namespace Go.Proofs.YtmkjalpgeljnkaaDoor
open Go.RowKit Go.Sort Go.Proofs

/-- How often an item is among the first. -/
def cntTo (xs : Array (Int × Int)) (x0 x1 : Int) : Nat → Nat
  | 0 => 0
  | j + 1 => cntTo xs x0 x1 j + if (xs[j]!.1 == x0 && xs[j]!.2 == x1) = true then 1 else 0
theorem cntTo_le (xs : Array (Int × Int)) (x0 x1 : Int) : ∀ j, cntTo xs x0 x1 j ≤ j
  | 0 => Nat.le_refl _
  | j + 1 => by have := cntTo_le xs x0 x1 j; rw [cntTo]; split <;> omega
theorem cntTo_take (xs : Array (Int × Int)) (x0 x1 : Int) : ∀ j, j ≤ xs.size → cntTo xs x0 x1 j = (xs.toList.take j).count (x0, x1)
  | 0, _ => by simp [cntTo]
  | j + 1, h => by
    have hj : j < xs.toList.length := by simp; omega
    rw [cntTo, cntTo_take xs x0 x1 j (by omega), List.take_succ_eq_append_getElem hj, List.count_append, getD_toList xs j hj]
    congr 1
    obtain ⟨a, b⟩ := xs[j]!
    by_cases h1 : a = x0 <;> by_cases h2 : b = x1 <;> simp [h1, h2]
theorem cntTo_count (xs : Array (Int × Int)) (x0 x1 : Int) : cntTo xs x0 x1 xs.size = xs.toList.count (x0, x1) := by
  rw [cntTo_take xs x0 x1 _ (Nat.le_refl _), List.take_of_length_le (by simp)]

def bagB (xs ys : Array (Int × Int)) : Bool := decide (xs.size = ys.size) && (List.range xs.size).all fun i => decide (cntTo xs xs[i]!.1 xs[i]!.2 xs.size = cntTo ys xs[i]!.1 xs[i]!.2 xs.size)
theorem bagB_true {xs ys : Array (Int × Int)} (hs : xs.size = ys.size) (h : ∀ i, i < xs.size → cntTo xs xs[i]!.1 xs[i]!.2 xs.size = cntTo ys xs[i]!.1 xs[i]!.2 xs.size) : bagB xs ys = true := by
  unfold bagB
  rw [Bool.and_eq_true, List.all_eq_true]
  exact ⟨decide_eq_true hs, fun i hi => decide_eq_true (h i (List.mem_range.1 hi))⟩
theorem bagB_false {xs ys : Array (Int × Int)} {i : Nat} (hi : i < xs.size) (h : cntTo xs xs[i]!.1 xs[i]!.2 xs.size ≠ cntTo ys xs[i]!.1 xs[i]!.2 xs.size) : bagB xs ys = false := by
  unfold bagB
  rw [Bool.and_eq_false_iff, List.all_eq_false]
  exact Or.inr ⟨i, List.mem_range.2 hi, by simpa using h⟩
theorem bagB_size {xs ys : Array (Int × Int)} (h : xs.size ≠ ys.size) : bagB xs ys = false := by unfold bagB; simp [h]
theorem bagB_elim {xs ys : Array (Int × Int)} (h : bagB xs ys = true) : xs.size = ys.size ∧ ∀ z, z ∈ xs.toList → xs.toList.count z = ys.toList.count z := by
  unfold bagB at h
  rw [Bool.and_eq_true, List.all_eq_true] at h
  have hs : xs.size = ys.size := of_decide_eq_true h.1
  refine ⟨hs, fun z hz => ?_⟩
  obtain ⟨i, hi, rfl⟩ := List.getElem_of_mem hz
  have hi' : i < xs.size := by simpa using hi
  have := of_decide_eq_true (h.2 i (List.mem_range.2 hi'))
  rw [cntTo_count] at this
  rw [hs, cntTo_count] at this
  rw [getD_toList]
  exact this
theorem bagB_intro {xs ys : Array (Int × Int)} (hs : xs.size = ys.size) (h : ∀ z, xs.toList.count z = ys.toList.count z) : bagB xs ys = true :=
  bagB_true hs fun i _ => by rw [cntTo_count, h]; rw [hs, cntTo_count]

theorem bag_unlike (p1 p2 : Option Addr) (n m c1 c2 : Nat) (w : World) (h : n ≠ m) :
    Calls Tryd.prog 20 #[.slice p1 n c1, .slice p2 m c2] w fun e w' => e = .returned (.bool false) ∧ ∃ q, w' = w.drewN q := by
  have hz : ((n : Int) == (m : Int)) = false := beq_eq_false_iff_ne.2 (by omega)
  go_enter Tryd.func20, Tryd.ntmps20
  go_wp2
  go_ret
  exact ⟨rfl, 0, rfl⟩
theorem bag_none (p1 p2 : Option Addr) (c1 c2 : Nat) (w : World) :
    Calls Tryd.prog 20 #[.slice p1 0 c1, .slice p2 0 c2] w fun e w' => e = .returned (.bool true) ∧ ∃ q, w' = w.drewN q := by
  go_enter Tryd.func20, Tryd.ntmps20
  go_wp2
  go_loop [5] (fun i => i = .int .i64 0) (fun _ => 0)
  case atStart => rfl
  case round =>
    subst hrel
    go_wp2
    go_ret
    exact ⟨rfl, 0, rfl⟩

set_option maxHeartbeats 4000000 in
theorem bag_some (b1 o1 c1 b2 o2 c2 n : Nat) (xs ys : Array (Int × Int)) (w : World) (hx : RdAt w b1 o1 xs) (hy : RdAt w b2 o2 ys) (hn : Hid (xs.size = n)) (hm : Hid (ys.size = n)) (hsz : n ≤ 4611686018427387904) :
    Calls Tryd.prog 20 #[.slice (some ⟨b1, o1, none⟩) n c1, .slice (some ⟨b2, o2, none⟩) n c2] w fun e w' => e = .returned (.bool (bagB xs ys)) ∧ ∃ q, w' = w.drewN q := by
  have HX : Aside _ := hx
  have HY : Aside _ := hy
  clear hx hy
  have k4 := guard_item
  go_enter Tryd.func20, Tryd.ntmps20
  go_wp2
  go_loopg [5] n (fun g vi wr => ∃ i q : Nat, vi = .int .i64 i ∧ i + g = n ∧ wr = w.drewN q ∧ Aside (∀ j, j < i → cntTo xs xs[j]!.1 xs[j]!.2 n = cntTo ys xs[j]!.1 xs[j]!.2 n))
  case atStart => exact ⟨0, 0, rfl, by omega, rfl, (show Aside _ from fun j hj => by omega)⟩
  case round =>
    obtain ⟨i, q, rfl, hg, rfl, HO⟩ := hrel
    by_cases hlt : i < n
    · have hlz : (i : Int) < (n : Int) := by omega
      obtain ⟨x0, x1, hx⟩ : ∃ x y, xs[i]! = (x, y) := ⟨_, _, rfl⟩
      have cx := HX.out.2 i (by rw [hn.out]; exact hlt)
      rw [hx] at cx
      obtain ⟨cx0, cx1⟩ := cx
      have HXX : Hid _ := hx
      clear hx
      go_wp2
      go_loopg [6, 7] n (fun g vm vj wr => ∃ j q : Nat, vj = .int .i64 j ∧ vm = .int .i64 ((cntTo xs x0 x1 j : Int) - (cntTo ys x0 x1 j : Int)) ∧ j + g = n ∧ wr = w.drewN q)
      case atStart => exact ⟨0, q, rfl, rfl, by omega, rfl⟩
      case round =>
        obtain ⟨j, q2, rfl, rfl, hgj, rfl⟩ := hrel
        have l1 := cntTo_le xs x0 x1 j
        have l2 := cntTo_le ys x0 x1 j
        by_cases hjt : j < n
        · have hjz : (j : Int) < (n : Int) := by omega
          obtain ⟨a0, a1, ha⟩ : ∃ x y, xs[j]! = (x, y) := ⟨_, _, rfl⟩
          obtain ⟨b0, b1', hbb⟩ : ∃ x y, ys[j]! = (x, y) := ⟨_, _, rfl⟩
          have ca := HX.out.2 j (by rw [hn.out]; exact hjt)
          have cb := HY.out.2 j (by rw [hm.out]; exact hjt)
          rw [ha] at ca
          rw [hbb] at cb
          obtain ⟨ca0, ca1⟩ := ca
          obtain ⟨cb0, cb1⟩ := cb
          have hX1 : cntTo xs x0 x1 (j + 1) = cntTo xs x0 x1 j + if (a0 == x0 && a1 == x1) = true then 1 else 0 := by rw [cntTo, ha]
          have hY1 : cntTo ys x0 x1 (j + 1) = cntTo ys x0 x1 j + if (b0 == x0 && b1' == x1) = true then 1 else 0 := by rw [cntTo, hbb]
          clear ha hbb
          obtain ⟨A, hA⟩ : ∃ A, cntTo xs x0 x1 j = A := ⟨_, rfl⟩
          obtain ⟨B, hB⟩ : ∃ B, cntTo ys x0 x1 j = B := ⟨_, rfl⟩
          rw [hA] at l1 hX1 ⊢
          rw [hB] at l2 hY1 ⊢
          clear hA hB
          have e1 := fun w => equalIn_item a0 a1 x0 x1 w
          have e2 := fun w => equalIn_item b0 b1' x0 x1 w
          have f1 := fun w => eql_item a0 a1 x0 x1 w
          have f2 := fun w => eql_item b0 b1' x0 x1 w
          generalize (a0 == x0 && a1 == x1) = ra at e1 f1 hX1
          generalize (b0 == x0 && b1' == x1) = rb at e2 f2 hY1
          have HX1 : Hid _ := hX1
          have HY1 : Hid _ := hY1
          clear hX1 hY1
          cases ra <;> cases rb
          all_goals
            go_wp2_with fail
            go_quiet (fail)
            go_wp2_with fail
            go_quiet (fail)
            go_wp2
            go_roundg (n - (j + 1))
            case measure => omega
            case rel => exact ⟨j + 1, _, by go_num, by rw [HX1.out, HY1.out]; simp only [if_true, Bool.false_eq_true, if_false]; go_num, by omega, by first | rfl | rw [World.drewN_drewN]⟩
        · have hjz : ¬ (j : Int) < (n : Int) := by omega
          obtain rfl : j = n := by omega
          by_cases he : cntTo xs x0 x1 j = cntTo ys x0 x1 j
          · have hz : ((cntTo xs x0 x1 j : Int) - (cntTo ys x0 x1 j : Int) == 0) = true := beq_iff_eq.2 (by omega)
            have HE : Hid _ := he
            clear he
            go_wp2
            go_roundg (j - (i + 1))
            case measure => omega
            case rel =>
              refine ⟨i + 1, q2, by go_num, by omega, rfl, (show Aside _ from fun k hk => ?_)⟩
              rcases Nat.lt_or_ge k i with c | c
              · exact HO.out k c
              · obtain rfl : k = i := by omega
                rw [HXX.out]; exact HE.out
          · have hz : ((cntTo xs x0 x1 j : Int) - (cntTo ys x0 x1 j : Int) == 0) = false := beq_eq_false_iff_ne.2 (by omega)
            have ef : bagB xs ys = false := bagB_false (i := i) (by rw [hn.out]; exact hlt) (by rw [HXX.out, hn.out]; exact he)
            have EF : Hid _ := ef
            clear ef he
            go_wp2
            go_ret
            exact ⟨ret_bb EF.out, q2, rfl⟩
    · have hlz : ¬ (i : Int) < (n : Int) := by omega
      have ef : bagB xs ys = true := bagB_true (hn.out.trans hm.out.symm) fun j hj => by rw [hn.out]; exact HO.out j (by rw [hn.out] at hj; omega)
      have EF : Hid _ := ef
      clear ef
      go_wp2
      go_ret
      exact ⟨ret_bb EF.out, q, rfl⟩

theorem bag_any (u v : Value) (xs ys : Array (Int × Int)) (w : World) (hx : Sl w u xs) (hy : Sl w v ys) (hn : xs.size ≤ 4611686018427387904) :
    Calls Tryd.prog 20 #[u, v] w fun e w' => e = .returned (.bool (bagB xs ys)) ∧ ∃ q, w' = w.drewN q := by
  obtain ⟨p1, c1, rfl, _, hx⟩ := hx
  obtain ⟨p2, c2, rfl, _, hy⟩ := hy
  by_cases hs : xs.size = ys.size
  · by_cases h0 : xs.size = 0
    · rw [bagB_true hs (fun i hi => by omega), ← hs, h0]
      exact bag_none p1 p2 c1 c2 w
    · rcases hx with hx | ⟨b1, o1, rfl, hx⟩
      · exact absurd hx h0
      rcases hy with hy | ⟨b2, o2, rfl, hy⟩
      · exact absurd (hs.trans hy) h0
      rw [← hs]
      exact bag_some b1 o1 c1 b2 o2 c2 xs.size xs ys w hx hy rfl hs.symm hn
  · rw [bagB_size hs]
    exact bag_unlike p1 p2 _ _ c1 c2 w hs
#print axioms bag_any
end Go.Proofs.YtmkjalpgeljnkaaDoor

/-
  The items of a heap of trees, held against other lists.
-/
namespace Go.Proofs.YtmkjalpgeljnkaaDoor
open Go.RowKit Go.Sort Go.Proofs

theorem Plants.items {xs : Array (Int × Int)} {n : Nat} {g : List TrL} (h : Plants xs n g) (hn : xs.size = n) : (itemsH g).Perm xs.toList := by
  have := h.perm
  rw [List.take_of_length_le (by simp; omega)] at this
  exact this
/-- Lists with the same items: Bag tells so. -/
theorem bag_perm (u v : Value) (l l' : List (Int × Int)) (w : World) (hx : Sl w u l.toArray) (hy : Sl w v l'.toArray) (hp : l.Perm l') (hn : l.length ≤ 1000) :
    Calls Tryd.prog 20 #[u, v] w fun e w' => e = .returned (.bool true) ∧ Below w.heap.size w w' := by
  have c := bag_any u v l.toArray l'.toArray w hx hy (by simp; omega)
  rw [bagB_intro (by simpa using hp.length_eq) fun z => by simpa using hp.count_eq z] at c
  refine c.mono ?_
  rintro e w' ⟨a, q, b⟩
  exact ⟨a, by rw [b]; exact below_drewN (Below.refl _ _) q⟩
/-- The items of a heap, as TreeItems tells them. -/
theorem treeItems_heap (v : Value) (g : List TrL) (w : World) (h : HpAt w v (zH g)) (hg : OkH g) :
    Calls Tryd.prog 21 #[v] w fun e w' => ∃ p c, e = .returned (.slice p (itemsH g).length c) ∧ Sl w' (.slice p (itemsH g).length c) (itemsH g).toArray ∧ Below w.heap.size w w' := by
  obtain ⟨p, c, hv⟩ := h.form
  rw [zH_len] at hv
  subst hv
  refine (treeItems_some p g.length c (zH g) w (by have := hg.len_le; omega) (by show _ = _; exact zH_len g) (by show _ ≤ _; rw [allZ_zH]; have := hg.size; omega) h).mono ?_
  rintro e w' ⟨u, rfl, ho, hb⟩
  rw [allZ_zH] at ho
  have hs := ho.sl
  obtain ⟨p, c, e, _⟩ := id hs
  rw [List.size_toArray] at e
  subst e
  exact ⟨p, c, rfl, hs, hb⟩
end Go.Proofs.YtmkjalpgeljnkaaDoor

/-
  Two lists, one behind the other, as the statements lay them.
-/
namespace Go.Proofs.YtmkjalpgeljnkaaDoor
open Go.RowKit Go.Sort Go.Proofs

theorem both_any (p q : Option Addr) (ca cb A B : Nat) (xs ys : Array (Int × Int)) (w : World) (hx : Sl w (.slice p A ca) xs) (hy : Sl w (.slice q B cb) ys) (hsz : xs.size + ys.size ≤ 1000000) :
    Calls Tryd.prog 22 #[.slice p A ca, .slice q B cb] w fun e w' => ∃ u, e = .returned u ∧ OwnI w' w.heap.size u (xs.toList ++ ys.toList) ∧ Below w.heap.size w w' := by
  have HX : Hid (Sl w (.slice p A ca) xs) := hx
  have HY : Hid (Sl w (.slice q B cb) ys) := hy
  clear hx hy
  go_enter Tryd.func22, Tryd.ntmps22
  go_wp2_with (first | (at_builtin; refine wpList_append_sl rfl (.tmp 6) (.tmp 7) rfl w.heap.size (.slice none 0 0) _ [] xs rfl rfl (OwnI.nil _ _) HX.out (by simp; omega) (Nat.le_refl _) ?_; intro v5 w5 h5 hg5; have hb5 := below_of_grown (v := .slice none 0 0) (OwnI.nil _ w.heap.size) hg5 (Nat.le_refl _) (Nat.le_refl _); clear hg5) | (at_builtin; refine wpList_append_sl rfl (.tmp 9) (.tmp 10) rfl w.heap.size v5 _ _ ys rfl rfl h5 (HY.out.below hb5) (by simp; omega) hb5.size ?_; intro v6 w6 h6 hg6; have hb6 := hb5.trans (below_of_grown h5 hg6 (Nat.le_refl _) hb5.size); clear hg6))
  go_ret
  exact ⟨_, rfl, by simpa using h6, hb6⟩
end Go.Proofs.YtmkjalpgeljnkaaDoor

/-
  Are the keys of two lists the same, in order?
-/
namespace Go.Proofs.YtmkjalpgeljnkaaDoor
open Go.RowKit Go.Sort Go.Proofs

theorem keys_none (p1 p2 : Option Addr) (c1 c2 : Nat) (w : World) :
    Calls Tryd.prog 25 #[.slice p1 0 c1, .slice p2 0 c2] w fun e w' => e = .returned (.bool true) ∧ ∃ q, w' = w.drewN q := by
  go_enter Tryd.func25, Tryd.ntmps25
  go_wp2
  go_loop [5] (fun i => i = .int .i64 0) (fun _ => 0)
  case atStart => rfl
  case round =>
    subst hrel
    go_wp2
    go_ret
    exact ⟨rfl, 0, rfl⟩
set_option maxHeartbeats 2000000 in
theorem keys_some (b1 o1 c1 b2 o2 c2 n : Nat) (xs ys : Array (Int × Int)) (w : World) (HX : Hid (RdAt w b1 o1 xs)) (HY : Hid (RdAt w b2 o2 ys)) (hn : Hid (xs.size = n)) (hm : Hid (ys.size = n)) (hsz : n ≤ 60) (HK : Hid (∀ j, j < n → xs[j]!.1 = ys[j]!.1)) :
    Calls Tryd.prog 25 #[.slice (some ⟨b1, o1, none⟩) n c1, .slice (some ⟨b2, o2, none⟩) n c2] w fun e w' => e = .returned (.bool true) ∧ ∃ q, w' = w.drewN q := by
  go_enter Tryd.func25, Tryd.ntmps25
  go_wp2
  go_loopg [5] n (fun g vi wr => ∃ i q : Nat, vi = .int .i64 i ∧ i + g = n ∧ wr = w.drewN q)
  case atStart => exact ⟨0, 0, rfl, by omega, rfl⟩
  case round =>
    obtain ⟨i, q, rfl, hg, rfl⟩ := hrel
    by_cases hlt : i < n
    · have hlz : (i : Int) < (n : Int) := by omega
      obtain ⟨x0, x1, hx⟩ : ∃ x y, xs[i]! = (x, y) := ⟨_, _, rfl⟩
      obtain ⟨y0, y1, hy⟩ : ∃ x y, ys[i]! = (x, y) := ⟨_, _, rfl⟩
      obtain ⟨cx0, cx1⟩ := HX.out.2 i (by rw [hn.out]; exact hlt)
      obtain ⟨cy0, cy1⟩ := HY.out.2 i (by rw [hm.out]; exact hlt)
      have he := HK.out i hlt
      rw [hx] at cx0 cx1 he
      rw [hy] at cy0 cy1 he
      have he' : x0 = y0 := he
      subst he'
      clear hx hy he
      go_wp2_with fail
      go_quiet (fail)
      go_wp2
      go_roundg (n - (i + 1))
      case measure => omega
      case rel => exact ⟨i + 1, q + nq, by go_num, by omega, by first | rfl | rw [World.drewN_drewN]⟩
    · have hlz : ¬ (i : Int) < (n : Int) := by omega
      go_wp2
      go_ret
      exact ⟨rfl, q, rfl⟩
theorem keys_same (u v : Value) (xs ys : Array (Int × Int)) (w : World) (hx : Sl w u xs) (hy : Sl w v ys) (hs : xs.size = ys.size) (h60 : xs.size ≤ 60) (hk : ∀ j, j < xs.size → xs[j]!.1 = ys[j]!.1) :
    Calls Tryd.prog 25 #[u, v] w fun e w' => e = .returned (.bool true) ∧ ∃ q, w' = w.drewN q := by
  obtain ⟨p1, c1, rfl, _, hx⟩ := hx
  obtain ⟨p2, c2, rfl, _, hy⟩ := hy
  by_cases h0 : xs.size = 0
  · rw [← hs, h0]; exact keys_none p1 p2 c1 c2 w
  · rcases hx with hx | ⟨b1, o1, rfl, hx⟩
    · exact absurd hx h0
    rcases hy with hy | ⟨b2, o2, rfl, hy⟩
    · exact absurd (hs.trans hy) h0
    rw [← hs]
    exact keys_some b1 o1 c1 b2 o2 c2 xs.size xs ys w hx hy rfl hs.symm h60 hk

/-- Two lists of numbers that do not fall, and have the same ones, are the same. -/
theorem perm_sorted_eq : ∀ (l l' : List Int), l.Pairwise (· ≤ ·) → l'.Pairwise (· ≤ ·) → l.Perm l' → l = l'
  | [], l', _, _, h => (List.nil_perm.1 h).symm ▸ rfl
  | x :: r, [], _, _, h => absurd h.length_eq (by simp)
  | x :: r, y :: s, h1, h2, h => by
    have a : y ≤ x := by
      rcases List.mem_cons.1 (h.mem_iff.1 (List.mem_cons_self)) with e | m
      · omega
      · exact (List.pairwise_cons.1 h2).1 x m
    have b : x ≤ y := by
      rcases List.mem_cons.1 (h.mem_iff.2 (List.mem_cons_self)) with e | m
      · omega
      · exact (List.pairwise_cons.1 h1).1 y m
    have e : x = y := by omega
    subst e
    rw [perm_sorted_eq r s (List.pairwise_cons.1 h1).2 (List.pairwise_cons.1 h2).2 h.cons_inv]

theorem OwnI.form {w : World} {base : Nat} {v : Value} {ys : List (Int × Int)} (h : OwnI w base v ys) : ∃ p c, v = .slice p ys.length c := by
  obtain ⟨_, ⟨rfl, h0⟩ | ⟨g, cap, cur, rfl, _⟩⟩ := h
  · exact ⟨none, 0, by rw [h0]⟩
  · exact ⟨_, _, rfl⟩
end Go.Proofs.YtmkjalpgeljnkaaDoor

/-
  slices.swapRangeCmpFunc and slices.rotateCmpFunc at items: two neighbouring stretches change places.
-/
namespace Go.Proofs.YtmkjalpgeljnkaaDoor
open Go.RowKit Go.Sort Go.Proofs

set_option maxHeartbeats 2000000 in
set_option maxRecDepth 100000 in
theorem swapRange_any (w0 : World) (blk off cap N a b n : Nat) (d : Array (Int × Int)) (fv : Value) (W : World)
    (h : At w0 blk off N d W) (hab : a + n ≤ b) (hb : b + n ≤ N) (hsz : N < 4611686018427387904) :
    Calls Tryd.prog 62 #[.slice (some ⟨blk, off, none⟩) N cap, .int .i64 a, .int .i64 b, .int .i64 n, fv] W fun e w' =>
      e = .returned (.tuple #[]) ∧ At w0 blk off N (swapR d a b n) w' := by
  go_enter Tryd.func62, Tryd.ntmps62
  go_wp2
  go_loopg [10] n (fun g vi wr => ∃ (i : Nat), vi = .int .i64 i ∧ i + g = n ∧ At w0 blk off N (swapR d a b i) wr)
  case atStart => exact ⟨0, rfl, by omega, h⟩
  case round =>
    obtain ⟨i, rfl, hg, HS⟩ := hrel
    by_cases hlt : i < n
    · obtain ⟨x, hx⟩ : ∃ x, (swapR d a b i)[a + i]! = x := ⟨_, rfl⟩
      obtain ⟨y, hy⟩ : ∃ y, (swapR d a b i)[b + i]! = y := ⟨_, rfl⟩
      obtain ⟨cx0, cx1, fx0, fx1⟩ := HS.drew.cell (i := a + i) (by omega)
      obtain ⟨cy0, cy1, fy0, fy1⟩ := HS.drew.cell (i := b + i) (by omega)
      rw [hx] at cx0 cx1
      rw [hy] at cy0 cy1
      simp at cx0 cx1 cy0 cy1 fx0 fx1 fy0 fy1
      have b1 : (a : Int) + (i : Int) < (N : Int) := by omega
      have b2 : (b : Int) + (i : Int) < (N : Int) := by omega
      have HX : Hid _ := hx
      have HY : Hid _ := hy
      clear hx hy
      go_wp2_with fail
      go_region
      go_wp2
      go_roundg (n - (i + 1))
      case measure => omega
      case rel => exact ⟨i + 1, by go_num, by omega, HS.swap (by omega) (by omega) HX.out HY.out⟩
    · go_wp2
      go_end0
      obtain rfl : i = n := by omega
      exact ⟨rfl, HS⟩

set_option maxHeartbeats 2000000 in
set_option maxRecDepth 100000 in
theorem rotate_any (w0 : World) (blk off cap N a m b : Nat) (d : Array (Int × Int)) (fv : Value) (W : World)
    (h : At w0 blk off N d W) (ham : a < m) (hmb : m < b) (hb : b ≤ N) (hsz : N < 4611686018427387904) :
    Calls Tryd.prog 61 #[.slice (some ⟨blk, off, none⟩) N cap, .int .i64 a, .int .i64 m, .int .i64 b, fv] W fun e w' =>
      e = .returned (.tuple #[]) ∧ ∃ d', Rot a m b d d' ∧ At w0 blk off N d' w' := by
  go_enter Tryd.func61, Tryd.ntmps61
  go_wp2
  go_loopg [10, 11] (b - a) (fun g vi vj wr => ∃ (i j : Nat) (dk : Array (Int × Int)), vi = .int .i64 i ∧ vj = .int .i64 j ∧ 1 ≤ i ∧ 1 ≤ j ∧ i ≤ m ∧ m + j ≤ N ∧ i + j ≤ g ∧
    At w0 blk off N dk wr ∧ Aside (∀ d', Rot (m - i) m (m + j) dk d' → Rot a m b d d'))
  case atStart =>
    exact ⟨m - a, b - m, d, by go_num, by go_num, by omega, by omega, by omega, by omega, by omega, h, (show Aside _ from by
      intro d' hd
      rwa [show m - (m - a) = a by omega, show m + (b - m) = b by omega] at hd)⟩
  case round =>
    obtain ⟨i, j, dk, rfl, rfl, hi, hj, him, hjm, hg, HS, HT⟩ := hrel
    by_cases hij : i = j
    · subst hij
      go_wp2_with fail
      rw [show (m : Int) - (i : Int) = ((m - i : Nat) : Int) by omega]
      refine (swapRange_any w0 blk off cap N (m - i) m i dk fv _ HS (by omega) (by omega) hsz).mono ?_
      rintro e w' ⟨rfl, h'⟩
      go_wp2
      go_end0
      exact ⟨rfl, _, HT.out _ (rot_last dk m i him (by rw [HS.size]; exact hjm)), h'⟩
    · by_cases hlt : j < i
      · have q0 : ((i : Int) == (j : Int)) = false := beq_eq_false_iff_ne.2 (by omega)
        have q1 : (j : Int) < (i : Int) := by omega
        go_wp2_with fail
        rw [show (m : Int) - (i : Int) = ((m - i : Nat) : Int) by omega]
        refine (swapRange_any w0 blk off cap N (m - i) m j dk fv _ HS (by omega) (by omega) hsz).mono ?_
        rintro e w' ⟨rfl, h'⟩
        go_wp2
        go_roundg (i - j + j)
        case measure => omega
        case rel =>
          exact ⟨i - j, j, _, by go_num, rfl, by omega, hj, by omega, hjm, Nat.le_refl _, h', (show Aside _ from fun d' hd => HT.out d' (rot_big dk d' m i j hlt him (by rw [HS.size]; exact hjm) hd))⟩
      · have q0 : ((i : Int) == (j : Int)) = false := beq_eq_false_iff_ne.2 (by omega)
        have q1 : ¬ (j : Int) < (i : Int) := by omega
        go_wp2_with fail
        rw [show (m : Int) - (i : Int) = ((m - i : Nat) : Int) by omega, show (m : Int) + (j : Int) - (i : Int) = ((m + j - i : Nat) : Int) by omega]
        refine (swapRange_any w0 blk off cap N (m - i) (m + j - i) i dk fv _ HS (by omega) (by omega) hsz).mono ?_
        rintro e w' ⟨rfl, h'⟩
        go_wp2
        go_roundg (i + (j - i))
        case measure => omega
        case rel =>
          exact ⟨i, j - i, _, rfl, by go_num, hi, by omega, him, by omega, Nat.le_refl _, h', (show Aside _ from fun d' hd => HT.out d' (rot_small dk d' m i j (by omega) him (by rw [HS.size]; exact hjm) hd))⟩
#print axioms rotate_any
end Go.Proofs.YtmkjalpgeljnkaaDoor

/-
  order.byKey and order.compare: what comes first.
-/
namespace Go.Proofs.YtmkjalpgeljnkaaDoor
open Go.RowKit Go.Sort Go.Proofs

/-- What compare gives. -/
def cmpI (a b : Int) : Int := if a < b then -1 else if b < a then 1 else 0
theorem cmpI_neg (a b : Int) : cmpI a b < 0 ↔ a < b := by unfold cmpI; split <;> (try split) <;> omega
theorem cmpI_bd (a b : Int) : -1 ≤ cmpI a b ∧ cmpI a b ≤ 1 := by unfold cmpI; split <;> (try split) <;> omega

theorem compare_any (a b : Int) (w : World) :
    Calls Tryd.prog 49 #[.int .i64 a, .int .i64 b] w fun e w' => e = .returned (.int .i64 (cmpI a b)) ∧ w' = w := by
  unfold cmpI
  by_cases h1 : a < b
  · rw [if_pos h1]
    go_enter Tryd.func49, Tryd.ntmps49
    go_wp2
    go_ret
    exact ⟨rfl, rfl⟩
  · rw [if_neg h1]
    by_cases h2 : b < a
    · rw [if_pos h2]
      go_enter Tryd.func49, Tryd.ntmps49
      go_wp2
      go_ret
      exact ⟨rfl, rfl⟩
    · rw [if_neg h2]
      go_enter Tryd.func49, Tryd.ntmps49
      go_wp2
      go_ret
      exact ⟨rfl, rfl⟩

set_option maxHeartbeats 1000000 in
theorem byKey_any (x y : Int × Int) (W : World) :
    Calls Tryd.prog 43 #[.agg #[.int .i64 x.1, .int .i64 x.2], .agg #[.int .i64 y.1, .int .i64 y.2]] W fun e w' =>
      e = .returned (.int .i64 (cmpI x.1 y.1)) ∧ ∃ q os', w' = grow (W.drewN q) os' := by
  have hcon := fun W' => compare_any x.1 y.1 W'
  generalize cmpI x.1 y.1 = r at hcon ⊢
  go_enter Tryd.func43, Tryd.ntmps43
  go_wp2_with (go_at_call 49; refine (hcon _).mono ?_; rintro e w' ⟨rfl, rfl⟩)
  go_ret
  exact ⟨rfl, 0, _, by rw [alloc_eq_grow, alloc_eq_grow, grow_grow]; rfl⟩

theorem byKey_enters : ∀ args w, (callFunc 43 args).run Tryd.prog w = .ok (.enter 43 args) w :=
  enters_of Tryd.func43 (by kernel_rfl) rfl
end Go.Proofs.YtmkjalpgeljnkaaDoor

/-
  slices.symMergeCmpFunc at items: two neighbouring sorted stretches become one, and nothing of one key changes its order.
-/
namespace Go.Proofs.YtmkjalpgeljnkaaDoor
open Go.RowKit Go.Sort Go.Proofs

set_option maxHeartbeats 4000000 in
set_option maxRecDepth 100000 in
theorem symMerge_left (w0 : World) (blk off cap N a b : Nat) (d : Array (Int × Int)) (W : World)
    (h : At w0 blk off N d W) (hmb : a + 1 < b) (hb : b ≤ N) (hsz : N < 4611686018427387904) (hs : Srt (a + 1) b d) :
    Calls Tryd.prog 57 #[.slice (some ⟨blk, off, none⟩) N cap, .int .i64 a, .int .i64 ((a : Int) + 1), .int .i64 b, .func (.func 43) #[] #[]] W fun e w' =>
      e = .returned (.tuple #[]) ∧ ∃ d', Mgd a b d d' ∧ Srt a b d' ∧ At w0 blk off N d' w' := by
  have HSR : Aside _ := hs
  clear hs
  have mixed : Tryd.prog.follows .mixedOrders = true := by kernel_rfl
  have q0 : ((a : Int) + 1 - (a : Int) == 1) = true := beq_iff_eq.2 (by omega)
  go_enter Tryd.func57, Tryd.ntmps57
  go_wp2
  go_loopg [10, 11] (b - a) (fun g vi vj wr => ∃ (i j : Nat), vi = .int .i64 i ∧ vj = .int .i64 j ∧ a + 1 ≤ i ∧ i ≤ j ∧ j ≤ b ∧ j - i ≤ g ∧ At w0 blk off N d wr ∧
    Aside ((∀ t, a + 1 ≤ t → t < i → d[t]!.1 < d[a]!.1) ∧ (∀ t, j ≤ t → t < b → d[a]!.1 ≤ d[t]!.1)))
  case atStart => exact ⟨a + 1, b, by go_num, rfl, by omega, by omega, by omega, by omega, h, (show Aside _ from ⟨fun t h1 h2 => by omega, fun t h1 h2 => by omega⟩)⟩
  case round =>
    obtain ⟨i, j, rfl, rfl, hai, hij, hjb, hg, HS, HB⟩ := hrel
    by_cases hlt : i < j
    · obtain ⟨c, hc⟩ : ∃ c, c = (i + j) / 2 := ⟨_, rfl⟩
      have c1 : i ≤ c := by omega
      have c2 : c < j := by omega
      have e2 : ((i : Int) + (j : Int)) / 2 = (c : Int) := by omega
      have b1 : (c : Int) < (N : Int) := by omega
      have b2 : (a : Int) < (N : Int) := by omega
      obtain ⟨x, hx⟩ : ∃ x, d[c]! = x := ⟨_, rfl⟩
      obtain ⟨y, hy⟩ : ∃ y, d[a]! = y := ⟨_, rfl⟩
      have cx0 := HS.cellG (i := c) (by omega) hx
      have cx1 := HS.cellG1 (i := c) (by omega) hx
      have cy0 := HS.cellG (i := a) (by omega) hy
      have cy1 := HS.cellG1 (i := a) (by omega) hy
      have HX : Hid _ := hx
      have HY : Hid _ := hy
      have HC : Hid _ := hc
      clear hx hy hc
      have hcg := fun n os => byKey_any x y (grow (wr.drewN n) os)
      have hcn := cmpI_neg x.1 y.1
      generalize cmpI x.1 y.1 = r at hcg hcn
      have HCN : Hid _ := hcn
      have HCG : Aside _ := hcg
      clear hcn hcg
      by_cases hr : r < 0
      · go_wp2_with fail
        go_quiet_grown (first | (go_at_call 43; refine Calls.grown_of (HCG.out _ _)))
        go_wp2
        go_roundg (j - (c + 1))
        case measure => omega
        case rel =>
          refine ⟨c + 1, j, by go_num, rfl, by omega, by omega, hjb, Nat.le_refl _, HS.grown _ _, (show Aside _ from ⟨fun t t1 t2 => ?_, HB.out.2⟩)⟩
          have := HSR.out t c t1 (by omega) (by omega)
          rw [HX.out] at this
          rw [HY.out]
          have := HCN.out.1 hr
          omega
      · go_wp2_with fail
        go_quiet_grown (first | (go_at_call 43; refine Calls.grown_of (HCG.out _ _)))
        go_wp2
        go_roundg (c - i)
        case measure => omega
        case rel =>
          refine ⟨i, c, rfl, rfl, hai, c1, by omega, Nat.le_refl _, HS.grown _ _, (show Aside _ from ⟨HB.out.1, fun t t1 t2 => ?_⟩)⟩
          have := HSR.out c t (by omega) t1 t2
          rw [HX.out] at this
          rw [HY.out]
          have := mt HCN.out.2 (by omega)
          omega
    · obtain rfl : i = j := by omega
      obtain ⟨wo, hwo⟩ : ∃ wo : World, wo = wr := ⟨_, rfl⟩
      have b3 : (0 : Int) ≤ (i : Int) - 1 := by omega
      go_wp2
      go_loopg [13] (i - 1 - a) (fun g vk wr2 => ∃ (k : Nat) (dk : Array (Int × Int)), vk = .int .i64 k ∧ a ≤ k ∧ k ≤ i - 1 ∧ i - 1 - k ≤ g ∧ At w0 blk off N dk wr2 ∧ Aside (Rot a (a + 1) (k + 1) d dk))
      case atStart => exact ⟨a, d, rfl, Nat.le_refl _, by omega, Nat.le_refl _, HS, (show Aside _ from Rot.id_right a (a + 1) d)⟩
      case round =>
        obtain ⟨k, dk, rfl, hak, hki, hg2, HK, HRt⟩ := hrel
        by_cases hlt2 : k < i - 1
        · have g1 : (k : Int) < (i : Int) - 1 := by omega
          obtain ⟨x, hx⟩ : ∃ x, dk[k]! = x := ⟨_, rfl⟩
          obtain ⟨y, hy⟩ : ∃ y, dk[k + 1]! = y := ⟨_, rfl⟩
          obtain ⟨cx0, cx1, fx0, fx1⟩ := HK.drew.cell (i := k) (by omega)
          obtain ⟨cy0, cy1, fy0, fy1⟩ := HK.drew.cell (i := k + 1) (by omega)
          rw [hx] at cx0 cx1
          rw [hy] at cy0 cy1
          simp at cx0 cx1 cy0 cy1 fx0 fx1 fy0 fy1
          have b1 : (k : Int) < (N : Int) := by omega
          have b2 : (k : Int) + 1 < (N : Int) := by omega
          have HX : Hid _ := hx
          have HY : Hid _ := hy
          clear hx hy
          go_wp2_with fail
          go_region
          go_wp2
          go_roundg (i - 1 - (k + 1))
          case measure => omega
          case rel => exact ⟨k + 1, _, by go_num, by omega, by omega, Nat.le_refl _, HK.swap (by omega) (by omega) HX.out HY.out, (show Aside _ from rot_up a k d dk HRt.out hak (by have := h.size; omega))⟩
        · have g1 : ¬ (k : Int) < (i : Int) - 1 := by omega
          go_wp2
          refine bodyPost_ret (results_none rfl _ _ _) rfl ?_
          obtain rfl : k + 1 = i := by omega
          have hf := sym_left (by omega) (by have := h.size; omega) HSR.out HB.out.1 HB.out.2 hjb HRt.out
          exact ⟨rfl, dk, hf.1, hf.2, HK⟩

set_option maxHeartbeats 4000000 in
set_option maxRecDepth 100000 in
theorem symMerge_right (w0 : World) (blk off cap N a m : Nat) (d : Array (Int × Int)) (W : World)
    (h : At w0 blk off N d W) (ham : a + 1 < m) (hb : m + 1 ≤ N) (hsz : N < 4611686018427387904) (hs : Srt a m d) :
    Calls Tryd.prog 57 #[.slice (some ⟨blk, off, none⟩) N cap, .int .i64 a, .int .i64 m, .int .i64 ((m : Int) + 1), .func (.func 43) #[] #[]] W fun e w' =>
      e = .returned (.tuple #[]) ∧ ∃ d', Mgd a (m + 1) d d' ∧ Srt a (m + 1) d' ∧ At w0 blk off N d' w' := by
  have HSR : Aside _ := hs
  clear hs
  have mixed : Tryd.prog.follows .mixedOrders = true := by kernel_rfl
  have q0 : ((m : Int) - (a : Int) == 1) = false := beq_eq_false_iff_ne.2 (by omega)
  have q1 : ((m : Int) + 1 - (m : Int) == 1) = true := beq_iff_eq.2 (by omega)
  go_enter Tryd.func57, Tryd.ntmps57
  go_wp2
  go_loopg [14, 15] (m - a) (fun g vi vj wr => ∃ (i j : Nat), vi = .int .i64 i ∧ vj = .int .i64 j ∧ a ≤ i ∧ i ≤ j ∧ j ≤ m ∧ j - i ≤ g ∧ At w0 blk off N d wr ∧
    Aside ((∀ t, a ≤ t → t < i → d[t]!.1 ≤ d[m]!.1) ∧ (∀ t, j ≤ t → t < m → d[m]!.1 < d[t]!.1)))
  case atStart => exact ⟨a, m, rfl, rfl, by omega, by omega, by omega, by omega, h, (show Aside _ from ⟨fun t h1 h2 => by omega, fun t h1 h2 => by omega⟩)⟩
  case round =>
    obtain ⟨i, j, rfl, rfl, hai, hij, hjb, hg, HS, HB⟩ := hrel
    by_cases hlt : i < j
    · obtain ⟨c, hc⟩ : ∃ c, c = (i + j) / 2 := ⟨_, rfl⟩
      have c1 : i ≤ c := by omega
      have c2 : c < j := by omega
      have e2 : ((i : Int) + (j : Int)) / 2 = (c : Int) := by omega
      have b1 : (c : Int) < (N : Int) := by omega
      have b2 : (m : Int) < (N : Int) := by omega
      obtain ⟨x, hx⟩ : ∃ x, d[m]! = x := ⟨_, rfl⟩
      obtain ⟨y, hy⟩ : ∃ y, d[c]! = y := ⟨_, rfl⟩
      have cx0 := HS.cellG (i := m) (by omega) hx
      have cx1 := HS.cellG1 (i := m) (by omega) hx
      have cy0 := HS.cellG (i := c) (by omega) hy
      have cy1 := HS.cellG1 (i := c) (by omega) hy
      have HX : Hid _ := hx
      have HY : Hid _ := hy
      have HC : Hid _ := hc
      clear hx hy hc
      have hcg := fun n os => byKey_any x y (grow (wr.drewN n) os)
      have hcn := cmpI_neg x.1 y.1
      generalize cmpI x.1 y.1 = r at hcg hcn
      have HCN : Hid _ := hcn
      have HCG : Aside _ := hcg
      clear hcn hcg
      by_cases hr : r < 0
      · have hd : decide (r < 0) = true := decide_eq_true hr
        go_wp2_with fail
        go_quiet_grown (first | (go_at_call 43; refine Calls.grown_of (HCG.out _ _)))
        go_wp2
        go_roundg (c - i)
        case measure => omega
        case rel =>
          refine ⟨i, c, rfl, rfl, hai, c1, by omega, Nat.le_refl _, HS.grown _ _, (show Aside _ from ⟨HB.out.1, fun t t1 t2 => ?_⟩)⟩
          have := HSR.out c t (by omega) t1 t2
          rw [HY.out] at this
          rw [HX.out]
          have := HCN.out.1 hr
          omega
      · have hd : decide (r < 0) = false := decide_eq_false hr
        go_wp2_with fail
        go_quiet_grown (first | (go_at_call 43; refine Calls.grown_of (HCG.out _ _)))
        go_wp2
        go_roundg (j - (c + 1))
        case measure => omega
        case rel =>
          refine ⟨c + 1, j, by go_num, rfl, by omega, by omega, hjb, Nat.le_refl _, HS.grown _ _, (show Aside _ from ⟨fun t t1 t2 => ?_, HB.out.2⟩)⟩
          have := HSR.out t c t1 (by omega) (by omega)
          rw [HY.out] at this
          rw [HX.out]
          have := mt HCN.out.2 (by omega)
          omega
    · obtain rfl : i = j := by omega
      go_wp2
      go_loopg [17] (m - i) (fun g vk wr2 => ∃ (k : Nat) (dk : Array (Int × Int)), vk = .int .i64 k ∧ i ≤ k ∧ k ≤ m ∧ k - i ≤ g ∧ At w0 blk off N dk wr2 ∧ Aside (Rot k m (m + 1) d dk))
      case atStart => exact ⟨m, d, rfl, hjb, Nat.le_refl _, Nat.le_refl _, HS, (show Aside _ from Rot.id_left m (m + 1) d)⟩
      case round =>
        obtain ⟨k0, dk, rfl, hik, hkm, hg2, HK, HRt⟩ := hrel
        by_cases hlt2 : i < k0
        · obtain ⟨k, rfl⟩ : ∃ k, k0 = k + 1 := ⟨k0 - 1, by omega⟩
          have g1 : (i : Int) < (k : Int) + 1 := by omega
          obtain ⟨x, hx⟩ : ∃ x, dk[k + 1]! = x := ⟨_, rfl⟩
          obtain ⟨y, hy⟩ : ∃ y, dk[k]! = y := ⟨_, rfl⟩
          obtain ⟨cx0, cx1, fx0, fx1⟩ := HK.drew.cell (i := k + 1) (by omega)
          obtain ⟨cy0, cy1, fy0, fy1⟩ := HK.drew.cell (i := k) (by omega)
          rw [hx] at cx0 cx1
          rw [hy] at cy0 cy1
          simp at cx0 cx1 cy0 cy1 fx0 fx1 fy0 fy1
          have b1 : (k : Int) < (N : Int) := by omega
          have b2 : (k : Int) + 1 < (N : Int) := by omega
          have HX : Hid _ := hx
          have HY : Hid _ := hy
          clear hx hy
          go_wp2_with fail
          go_region
          go_wp2
          go_roundg (k - i)
          case measure => omega
          case rel => exact ⟨k, _, by go_num, by omega, by omega, Nat.le_refl _, HK.swap (by omega) (by omega) HX.out HY.out, (show Aside _ from rot_down m k d dk HRt.out (by omega) (by have := h.size; omega))⟩
        · have g1 : ¬ (i : Int) < (k0 : Int) := by omega
          go_wp2
          refine bodyPost_ret (results_none rfl _ _ _) rfl ?_
          obtain rfl : k0 = i := by omega
          have hf := sym_right hai hjb (by have := h.size; omega) HSR.out HB.out.1 HB.out.2 HRt.out
          exact ⟨rfl, dk, hf.1, hf.2, HK⟩
end Go.Proofs.YtmkjalpgeljnkaaDoor
