/-
  bino.Pop.
-/
import Derived.Test.YtmkjalpgeljnkaaDoorDApi
import Derived.Test.YtmkjalpgeljnkaaDoorDLeast
namespace Go.Proofs.YtmkjalpgeljnkaaDoor
open Go.RowKit Go.Sort Go.Proofs

/-- The cells of an item that is told stay as they are. -/
theorem told_two {w w1 : World} (h : Below (w.alloc (.cells #[.int .i64 0, .int .i64 0] 24)).heap.size (w.alloc (.cells #[.int .i64 0, .int .i64 0] 24)) w1) : w1.cell? ⟨w.heap.size, 0, none⟩ = some (.int .i64 0) ∧ w1.cell? ⟨w.heap.size, 1, none⟩ = some (.int .i64 0) ∧ w1.frozen? ⟨w.heap.size, 0, none⟩ = false ∧ w1.frozen? ⟨w.heap.size, 1, none⟩ = false ∧ w.heap.size < w1.heap.size ∧ Below w.heap.size w w1 := by
  have hlt : w.heap.size < (w.alloc (.cells #[.int .i64 0, .int .i64 0] 24)).heap.size := by simp
  have hb : Below w.heap.size w (w.alloc (.cells #[.int .i64 0, .int .i64 0] 24)) := (Below.refl _ _).alloc (Nat.le_refl _) _
  exact ⟨(h.cell (p := ⟨w.heap.size, 0, none⟩) hlt).trans (by simp), (h.cell (p := ⟨w.heap.size, 1, none⟩) hlt).trans (by simp), (World.frozen?_of_block (a := ⟨w.heap.size, 0, none⟩) (h.block _ hlt)).trans (by simp), (World.frozen?_of_block (a := ⟨w.heap.size, 1, none⟩) (h.block _ hlt)).trans (by simp), Nat.lt_of_lt_of_le hlt h.size, hb.trans (h.mono hb.size)⟩
theorem digitH_erase : ∀ {h : List TrL} {a r : Nat} {l : List (Int × Int)}, h.Pairwise (fun a b => a.1 < b.1) → h[a]? = some (r, l) → ∀ j, (if j = r then [] else digitH h j) = digitH (h.eraseIdx a) j
  | [], a, r, l, _, e, _ => by simp at e
  | t :: h, 0, r, l, hp, e, j => by
    simp only [List.getElem?_cons_zero, Option.some.injEq] at e
    subst e
    have hq := (List.pairwise_cons.1 hp).1
    rw [List.eraseIdx_cons_zero]
    by_cases q : j = r
    · subst q
      rw [if_pos rfl]
      exact (digitH_none fun t ht => by have := hq t ht; simp only at this; omega).symm
    · rw [if_neg q, digitH_ne l h (fun c => q c.symm)]
  | (q, m) :: h, a + 1, r, l, hp, e, j => by
    simp only [List.getElem?_cons_succ] at e
    have hq := (List.pairwise_cons.1 hp).1 (r, l) (List.mem_of_getElem? e)
    simp only at hq
    rw [List.eraseIdx_cons_succ]
    have ih := digitH_erase (List.pairwise_cons.1 hp).2 e j
    by_cases z : q = j
    · subst z
      rw [digitH_eq, if_neg (by omega), digitH_eq]
    · rw [digitH_ne m h z, digitH_ne m (h.eraseIdx a) z]
      exact ih

theorem addr_ne {a b o o' : Nat} (h : ¬ a = b) : (⟨a, o, none⟩ : Addr) ≠ ⟨b, o', none⟩ := fun e => h (Addr.mk.inj e).1
set_option maxHeartbeats 4000000 in
theorem dPop_A (p : Option Addr) (n cap k : Nat) (w : World)
    (C : Hid (∀ w1, Below w.heap.size w w1 → Calls Tryd.prog 9 #[.slice p n cap] w1 fun e w' => e = .returned (.iface 56 (.int .i64 k)) ∧ Below w1.heap.size w1 w')) :
    Calls Tryd.prog 17 #[.slice p n cap] w fun e w' => e = .returned (.tuple #[.agg #[.int .i64 0, .int .i64 0], .slice none 0 0, .iface 56 (.int .i64 k)]) ∧ Below w.heap.size w w' := by
  have c1 := C.out (w.alloc (.cells #[.int .i64 0, .int .i64 0] 24)) ((Below.refl _ _).alloc (Nat.le_refl _) _)
  clear C
  go_enter Tryd.func17, Tryd.ntmps17
  go_wp2_with fail
  refine c1.mono ?_
  rintro e w1 ⟨rfl, hb1'⟩
  obtain ⟨b0, b1, f0, f1, hlt, hb1⟩ := told_two hb1'
  clear hb1' c1
  go_wp2
  refine bodyPost_ret (by simp [results, Tryd.results17, go_sem, b0, b1]; try rfl) rfl ?_
  exact ⟨rfl, (hb1.setCell (p := ⟨w.heap.size, 0, none⟩) (Nat.le_refl _) _).setCell (p := ⟨w.heap.size, 1, none⟩) (Nat.le_refl _) _⟩
set_option maxHeartbeats 4000000 in
theorem dPop_B (p : Option Addr) (cap : Nat) (w : World)
    (C : Hid (∀ w1, Below w.heap.size w w1 → Calls Tryd.prog 9 #[.slice p 0 cap] w1 fun e w' => e = .returned .nilIface ∧ Below w1.heap.size w1 w')) :
    Calls Tryd.prog 17 #[.slice p 0 cap] w fun e w' => e = .returned (.tuple #[.agg #[.int .i64 0, .int .i64 0], .slice none 0 0, .iface 56 (.int .i64 5)]) ∧ Below w.heap.size w w' := by
  have c1 := C.out (w.alloc (.cells #[.int .i64 0, .int .i64 0] 24)) ((Below.refl _ _).alloc (Nat.le_refl _) _)
  clear C
  go_enter Tryd.func17, Tryd.ntmps17
  go_wp2_with fail
  refine c1.mono ?_
  rintro e w1 ⟨rfl, hb1'⟩
  obtain ⟨b0, b1, f0, f1, hlt, hb1⟩ := told_two hb1'
  clear hb1' c1
  go_wp2
  refine bodyPost_ret (by simp [results, Tryd.results17, go_sem, b0, b1]; try rfl) rfl ?_
  exact ⟨rfl, (hb1.setCell (p := ⟨w.heap.size, 0, none⟩) (Nat.le_refl _) _).setCell (p := ⟨w.heap.size, 1, none⟩) (Nat.le_refl _) _⟩
set_option maxHeartbeats 32000000 in
set_option maxRecDepth 8000 in
theorem dPop_C (p : Option Addr) (n cap : Nat) (x0 x1 : Int) (r ln : Nat) (l : List (Int × Int)) (h : List TrL) (w : World) (hn : 0 < n) (hr : r ≤ 5) (hln : 0 < ln) (HN : Hid (h.length = n)) (HG : Hid (OkH h)) (HE : Hid (h[atTo h n]? = some (r, (x0, x1) :: l))) (HLN : Hid (((x0, x1) :: l).length = ln)) (HA : Hid (HpAt w (.slice p n cap) (zH h)))
    (C : Hid (∀ w1, Below w.heap.size w w1 → Calls Tryd.prog 9 #[.slice p n cap] w1 fun e w' => e = .returned .nilIface ∧ Below w1.heap.size w1 w'))
    (CL : Hid (∀ w1, Below w.heap.size w w1 → Calls Tryd.prog 39 #[.slice p n cap] w1 fun e w' => ∃ (q : Option Addr) (c : Nat), e = .returned (.agg #[.int .i64 (r : Int), .slice q ln c]) ∧ Sl w (.slice q ln c) ((x0, x1) :: l).toArray ∧ Below w1.heap.size w1 w')) :
    Calls Tryd.prog 17 #[.slice p n cap] w fun e w' => ∃ u, e = .returned (.tuple #[.agg #[.int .i64 x0, .int .i64 x1], u, .nilIface]) ∧ NewH w.heap.size w' u (popH h) ∧ Below w.heap.size w w' := by
  have hnz : ((n : Int) == 0) = false := by rw [beq_eq_false_iff_ne]; omega
  have hlz : (0 : Int) < (ln : Int) := by omega
  have hrz : (r : Int) < 6 := by omega
  have c1 := C.out (w.alloc (.cells #[.int .i64 0, .int .i64 0] 24)) ((Below.refl _ _).alloc (Nat.le_refl _) _)
  clear C
  go_enter Tryd.func17, Tryd.ntmps17
  go_wp2_with fail
  refine c1.mono ?_
  rintro e w1 ⟨rfl, hb1'⟩
  obtain ⟨n0, n1, f0, f1, hlt, hb1⟩ := told_two hb1'
  clear hb1' c1
  go_wp2_with fail
  refine (CL.out w1 hb1).mono ?_
  rintro e w2 ⟨q, c, rfl, hsl, hb2'⟩
  have hb2 := hb1.trans (hb2'.mono hb1.size)
  have hw1w2 : w1.heap.size ≤ w2.heap.size := hb2'.size
  obtain ⟨q', c', eq, hqc, hq0 | ⟨b, o, rfl, hrd⟩⟩ := id hsl
  · rw [List.size_toArray, HLN.out] at hq0; omega
  simp only [Value.slice.injEq] at eq
  obtain ⟨rfl, hq2, rfl⟩ := eq
  clear hq2
  obtain ⟨k0, k1⟩ := hrd.2 0 (by rw [List.size_toArray, HLN.out]; exact hln)
  simp only [Nat.zero_mul, Nat.add_zero] at k0 k1
  have k0' : w.cell? ⟨b, o, none⟩ = some (.int .i64 x0) := k0
  have k1' : w.cell? ⟨b, o + 1, none⟩ = some (.int .i64 x1) := k1
  have hbw : b < w.heap.size := hrd.1
  clear k0 k1 hrd hqc
  have HS2 : Hid (Sl w (.slice (some ⟨b, o, none⟩) ln c) ((x0, x1) :: l).toArray) := hsl
  have HT3 : Hid (TrB (w2.alloc (.cells #[.int .i64 (r : Int), .slice (some ⟨b, o, none⟩) ln c] 37)) w2.heap.size (r : Int) (some ⟨b, o, none⟩, ln, c)) := new_trb w2 (r : Int) (some ⟨b, o, none⟩, ln, c) _ _ rfl
  have HB3 : Hid (Below w2.heap.size w2 (w2.alloc (.cells #[.int .i64 (r : Int), .slice (some ⟨b, o, none⟩) ln c] 37))) := (Below.refl _ _).alloc (Nat.le_refl _) _
  have hb3 := hb2.trans (HB3.out.mono hb2.size)
  have cR := read_any _ h _ (HA.out.below hb3) HG.out
  have HB13 : Hid (Below w1.heap.size w1 (w2.alloc (.cells #[.int .i64 (r : Int), .slice (some ⟨b, o, none⟩) ln c] 37))) := hb2'.trans (HB3.out.mono hb2'.size)
  clear hsl hb2'
  go_wp2_with fail
  generalize (w2.alloc (.cells #[.int .i64 (r : Int), .slice (some ⟨b, o, none⟩) ln c] 37)) = w3 at HT3 HB3 hb3 cR HB13 ⊢
  refine cR.mono ?_
  rintro e w4 ⟨d, he, hd, hb4'⟩
  obtain ⟨s0, s1, s2, s3, s4, s5, rfl⟩ := six hd.1
  have he' : e = .returned (.agg #[.slice s0.1 s0.2.1 s0.2.2, .slice s1.1 s1.2.1 s1.2.2, .slice s2.1 s2.2.1 s2.2.2, .slice s3.1 s3.2.1 s3.2.2, .slice s4.1 s4.2.1 s4.2.2, .slice s5.1 s5.2.1 s5.2.2]) := he
  subst he'
  have HT4 : Hid (TrB w4 w2.heap.size (r : Int) (some ⟨b, o, none⟩, ln, c)) := HT3.out.below hb4' HT3.out.lt
  have HB14 : Hid (Below w1.heap.size w1 w4) := HB13.out.trans (hb4'.mono HB13.out.size)
  have HB34 : Hid (Below w2.heap.size w2 w4) := HB3.out.trans (hb4'.mono HB3.out.size)
  have HD4 : Hid (DgAt w4 [s0, s1, s2, s3, s4, s5] (digitH h)) := hd.below hb4'
  clear he hd hb4' cR HT3 HB3 hb3 HB13
  obtain ⟨hlt4, y0, y1, _, _⟩ := HT4.out
  simp only at y1
  obtain ⟨sr, es, _⟩ := HD4.out.2 r (by omega)
  have hsr : [Value.slice s0.1 s0.2.1 s0.2.2, .slice s1.1 s1.2.1 s1.2.2, .slice s2.1 s2.2.1 s2.2.2, .slice s3.1 s3.2.1 s3.2.2, .slice s4.1 s4.2.1 s4.2.2, .slice s5.1 s5.2.1 s5.2.2][r]? = some (.slice sr.1 sr.2.1 sr.2.2) := by
    have := congrArg (Option.map fun s : SlV => Value.slice s.1 s.2.1 s.2.2) es
    rw [← List.getElem?_map] at this
    exact this
  clear es
  obtain ⟨t0, t1, t2, t3, t4, t5, hset⟩ := six (d := [s0, s1, s2, s3, s4, s5].set r (none, 0, 0)) (by rw [List.length_set]; rfl)
  have hsv : [Value.slice s0.1 s0.2.1 s0.2.2, .slice s1.1 s1.2.1 s1.2.2, .slice s2.1 s2.2.1 s2.2.2, .slice s3.1 s3.2.1 s3.2.2, .slice s4.1 s4.2.1 s4.2.2, .slice s5.1 s5.2.1 s5.2.2].set r (.slice none 0 0) = [.slice t0.1 t0.2.1 t0.2.2, .slice t1.1 t1.2.1 t1.2.2, .slice t2.1 t2.2.1 t2.2.2, .slice t3.1 t3.2.1 t3.2.2, .slice t4.1 t4.2.1 t4.2.2, .slice t5.1 t5.2.1 t5.2.2] := by
    have := congrArg (List.map fun s : SlV => Value.slice s.1 s.2.1 s.2.2) hset
    rw [List.map_set] at this
    exact this
  have HD5 : Hid (DgAt w4 [t0, t1, t2, t3, t4, t5] (digitH (h.eraseIdx (atTo h n)))) := by
    show DgAt _ _ _
    rw [← hset]
    exact (HD4.out.set (r := r) (s := (none, 0, 0)) (Sl.nil w4)).congr fun j _ => digitH_erase HG.out.isH.rise HE.out j
  have HSV : Hid (_ = _) := hsv
  clear hset hsv HD4
  go_wp2_with fail
  rw [HSV.out]
  have HX7 : Hid (WrE ES (w4.alloc (.cells #[.slice t0.1 t0.2.1 t0.2.2, .slice t1.1 t1.2.1 t1.2.2, .slice t2.1 t2.2.1 t2.2.2, .slice t3.1 t3.2.1 t3.2.2, .slice t4.1 t4.2.1 t4.2.2, .slice t5.1 t5.2.1 t5.2.2] 62)) w4.heap.size 0 [t0, t1, t2, t3, t4, t5]) := new_six w4 t0 t1 t2 t3 t4 t5 _
  have HB5 : Hid (Below w4.heap.size w4 (w4.alloc (.cells #[.slice t0.1 t0.2.1 t0.2.2, .slice t1.1 t1.2.1 t1.2.2, .slice t2.1 t2.2.1 t2.2.2, .slice t3.1 t3.2.1 t3.2.2, .slice t4.1 t4.2.1 t4.2.2, .slice t5.1 t5.2.1 t5.2.2] 62))) := (Below.refl _ _).alloc (Nat.le_refl _) _
  have xa6 := (HB5.out.cell (p := ⟨w2.heap.size, 1, none⟩) hlt4).trans y1
  have hw24 : w2.heap.size ≤ w4.heap.size := HB34.out.size
  have hw12 : w1.heap.size ≤ w4.heap.size := HB14.out.size
  have HBW5 : Hid (Below w.heap.size w (w4.alloc (.cells #[.slice t0.1 t0.2.1 t0.2.2, .slice t1.1 t1.2.1 t1.2.2, .slice t2.1 t2.2.1 t2.2.2, .slice t3.1 t3.2.1 t3.2.2, .slice t4.1 t4.2.1 t4.2.2, .slice t5.1 t5.2.1 t5.2.2] 62))) := (hb1.trans (HB14.out.mono hb1.size)).trans (HB5.out.mono (Nat.le_trans hb1.size hw12))
  have n0' := ((HB14.out.trans (HB5.out.mono hw12)).cell (p := ⟨w.heap.size, 0, none⟩) hlt).trans n0
  have n1' := ((HB14.out.trans (HB5.out.mono hw12)).cell (p := ⟨w.heap.size, 1, none⟩) hlt).trans n1
  have f0' := (World.frozen?_of_block (a := ⟨w.heap.size, 0, none⟩) ((HB14.out.trans (HB5.out.mono hw12)).block _ hlt)).trans f0
  have f1' := (World.frozen?_of_block (a := ⟨w.heap.size, 1, none⟩) ((HB14.out.trans (HB5.out.mono hw12)).block _ hlt)).trans f1
  have hNw : w.heap.size < w4.heap.size := Nat.lt_of_lt_of_le hlt hw12
  have hN6 : w.heap.size < w2.heap.size := Nat.lt_of_lt_of_le hlt hw1w2
  have HD6 : Hid (DgAt (w4.alloc (.cells #[.slice t0.1 t0.2.1 t0.2.2, .slice t1.1 t1.2.1 t1.2.2, .slice t2.1 t2.2.1 t2.2.2, .slice t3.1 t3.2.1 t3.2.2, .slice t4.1 t4.2.1 t4.2.2, .slice t5.1 t5.2.1 t5.2.2] 62)) [t0, t1, t2, t3, t4, t5] (digitH (h.eraseIdx (atTo h n)))) := HD5.out.below HB5.out
  have hsz5 : (w4.alloc (.cells #[.slice t0.1 t0.2.1 t0.2.2, .slice t1.1 t1.2.1 t1.2.2, .slice t2.1 t2.2.1 t2.2.2, .slice t3.1 t3.2.1 t3.2.2, .slice t4.1 t4.2.1 t4.2.2, .slice t5.1 t5.2.1 t5.2.2] 62)).heap.size = w4.heap.size + 1 := by simp
  have hg7 : w4.heap.size < (w4.alloc (.cells #[.slice t0.1 t0.2.1 t0.2.2, .slice t1.1 t1.2.1 t1.2.2, .slice t2.1 t2.2.1 t2.2.2, .slice t3.1 t3.2.1 t3.2.2, .slice t4.1 t4.2.1 t4.2.2, .slice t5.1 t5.2.1 t5.2.2] 62)).heap.size := HX7.out.lt
  have hg6 : w2.heap.size < (w4.alloc (.cells #[.slice t0.1 t0.2.1 t0.2.2, .slice t1.1 t1.2.1 t1.2.2, .slice t2.1 t2.2.1 t2.2.2, .slice t3.1 t3.2.1 t3.2.2, .slice t4.1 t4.2.1 t4.2.2, .slice t5.1 t5.2.1 t5.2.2] 62)).heap.size := by omega
  have hb5 : b < (w4.alloc (.cells #[.slice t0.1 t0.2.1 t0.2.2, .slice t1.1 t1.2.1 t1.2.2, .slice t2.1 t2.2.1 t2.2.2, .slice t3.1 t3.2.1 t3.2.2, .slice t4.1 t4.2.1 t4.2.2, .slice t5.1 t5.2.1 t5.2.2] 62)).heap.size := by omega
  have hN5 : w.heap.size < (w4.alloc (.cells #[.slice t0.1 t0.2.1 t0.2.2, .slice t1.1 t1.2.1 t1.2.2, .slice t2.1 t2.2.1 t2.2.2, .slice t3.1 t3.2.1 t3.2.2, .slice t4.1 t4.2.1 t4.2.2, .slice t5.1 t5.2.1 t5.2.2] 62)).heap.size := by omega
  have xx0 := (HBW5.out.cell (p := ⟨b, o, none⟩) hbw).trans k0'
  have xx1 := (HBW5.out.cell (p := ⟨b, o + 1, none⟩) hbw).trans k1'
  obtain ⟨⟨xt0, xt1, xt2, xt3, xt4, xt5⟩, _⟩ := HX7.out.six
  have hNb : ¬ b = w.heap.size := by omega
  clear HSV HX7 HB5 HD5 HB14 HB34 HT4 y0 y1 n0 n1 f0 f1 hsr hb1 hb2 k0' k1' hsz5
  generalize (w4.alloc (.cells #[.slice t0.1 t0.2.1 t0.2.2, .slice t1.1 t1.2.1 t1.2.2, .slice t2.1 t2.2.1 t2.2.2, .slice t3.1 t3.2.1 t3.2.2, .slice t4.1 t4.2.1 t4.2.2, .slice t5.1 t5.2.1 t5.2.2] 62)) = w5 at *
  have hN7' : ¬ w4.heap.size = w.heap.size := by omega
  have hN6' : ¬ w2.heap.size = w.heap.size := by omega
  clear hNw hN6 hlt4 hw24 hw12 hw1w2
  generalize w4.heap.size = g7 at *
  generalize w2.heap.size = g6 at *
  have hN7 := hN7'
  have hN6 := hN6'
  clear hN7' hN6'
  obtain ⟨E, hE⟩ : ∃ E, h.eraseIdx (atTo h n) = E := ⟨_, rfl⟩
  obtain ⟨P, hP⟩ : ∃ P, partsL r ((x0, x1) :: l) r = P := ⟨_, rfl⟩
  have HPO : Hid (OkH E ∧ OkH P ∧ popH h = meldH E P ∧ (itemsH E).length + (itemsH P).length ≤ 60 ∧ ((x0, x1) :: l).length = 2 ^ r) := by
    obtain ⟨r', x', l', p1, p2, p3, p4, p5, p6, _⟩ := HG.out.pop (fun e => by have := HN.out; rw [e] at this; simp at this; omega)
    rw [HN.out, HE.out] at p1
    simp only [Option.some.injEq, Prod.mk.injEq, List.cons.injEq] at p1
    obtain ⟨rfl, rfl, rfl⟩ := p1
    rw [HN.out] at p2 p4
    rw [hE] at p2 p4
    rw [hP] at p3 p4
    have hT := HG.out.isH.trees _ (List.mem_of_getElem? HE.out)
    refine ⟨p2, p3, p4, ?_, hT.len⟩
    have q1 := (meldH_good p2.isH p3.isH (by have := p2.size; have := p3.size; omega)).2.length_eq
    rw [← p4, List.length_append] at q1
    have := p5.size
    omega
  have HDE : Hid (DgAt w5 [t0, t1, t2, t3, t4, t5] (digitH E)) := by show DgAt _ _ _; have := HD6.out; rw [hE] at this; exact this
  have HPD : Hid (∀ j, partD r ((x0, x1) :: l) j = digitH P j) := by show ∀ j, _; intro j; rw [← hP]; exact (digitH_partD r _ j).symm
  clear HD6 hE hP
  have CB : Hid (∀ W, Below w5.heap.size w5 W → Calls Tryd.prog 40 #[.slice (some ⟨b, o, none⟩) ln c] W fun e w' => ∃ d, e = .returned (agV d) ∧ DgAt w' d (digitH P) ∧ Below W.heap.size W w') := by
    show ∀ W, _
    intro W hb
    have := below_any (.slice (some ⟨b, o, none⟩) ln c) r ((x0, x1) :: l) W (HS2.out.below (HBW5.out.trans (hb.mono HBW5.out.size))) hr HPO.out.2.2.2.2
    exact this.mono fun e w' ⟨d, a1, a2, a3⟩ => ⟨d, a1, (a2.below a3).congr fun j _ => HPD.out j, a3⟩
  have CM : Hid (∀ W u0 u1 u2 u3 u4 u5, Below w5.heap.size w5 W → DgAt W [u0, u1, u2, u3, u4, u5] (digitH P) → Calls Tryd.prog 37 #[.agg #[.slice t0.1 t0.2.1 t0.2.2, .slice t1.1 t1.2.1 t1.2.2, .slice t2.1 t2.2.1 t2.2.2, .slice t3.1 t3.2.1 t3.2.2, .slice t4.1 t4.2.1 t4.2.2, .slice t5.1 t5.2.1 t5.2.2], .agg #[.slice u0.1 u0.2.1 u0.2.2, .slice u1.1 u1.2.1 u1.2.2, .slice u2.1 u2.2.1 u2.2.2, .slice u3.1 u3.2.1 u3.2.2, .slice u4.1 u4.2.1 u4.2.2, .slice u5.1 u5.2.1 u5.2.2]] W fun e w' => ∃ d, e = .returned (agV d) ∧ DgAt w' d (outAt (digitH E) (digitH P)) ∧ Below W.heap.size W w') := by
    show ∀ W u0 u1 u2 u3 u4 u5, _
    intro W u0 u1 u2 u3 u4 u5 hb hd
    have := melded_any [t0, t1, t2, t3, t4, t5] [u0, u1, u2, u3, u4, u5] (digitH E) (digitH P) W (HDE.out.below hb) hd (dig_len HPO.out.1.isH) (dig_len HPO.out.2.1.isH) (car_len HPO.out.1.isH HPO.out.2.1.isH)
    exact this
  have CW : Hid (∀ W e0 e1 e2 e3 e4 e5, w5.heap.size ≤ W.heap.size → DgAt W [e0, e1, e2, e3, e4, e5] (outAt (digitH E) (digitH P)) → Calls Tryd.prog 36 #[.agg #[.slice e0.1 e0.2.1 e0.2.2, .slice e1.1 e1.2.1 e1.2.2, .slice e2.1 e2.2.1 e2.2.2, .slice e3.1 e3.2.1 e3.2.2, .slice e4.1 e4.2.1 e4.2.2, .slice e5.1 e5.2.1 e5.2.2]] W fun e w' => ∃ u, e = .returned u ∧ NewH W.heap.size w' u (popH h) ∧ Below W.heap.size W w') := by
    show ∀ W e0 e1 e2 e3 e4 e5, _
    intro W e0 e1 e2 e3 e4 e5 hb hd
    have := written_any [e0, e1, e2, e3, e4, e5] (outAt (digitH E) (digitH P)) W hd (out_len HPO.out.1.isH HPO.out.2.1.isH)
    rw [← meldH_six HPO.out.1 HPO.out.2.1 HPO.out.2.2.2.1, ← HPO.out.2.2.1] at this
    exact this
  go_region_held3 (fun w' => w'.cell? ⟨g6, 1, none⟩ = some (.slice (some ⟨b, o, none⟩) ln c) ∧ w'.cell? ⟨b, o, none⟩ = some (.int .i64 x0) ∧ w'.cell? ⟨b, o + 1, none⟩ = some (.int .i64 x1) ∧ w'.cell? ⟨g7, 0, none⟩ = some (.slice t0.1 t0.2.1 t0.2.2) ∧ w'.cell? ⟨g7, 1, none⟩ = some (.slice t1.1 t1.2.1 t1.2.2) ∧ w'.cell? ⟨g7, 2, none⟩ = some (.slice t2.1 t2.2.1 t2.2.2) ∧ w'.cell? ⟨g7, 3, none⟩ = some (.slice t3.1 t3.2.1 t3.2.2) ∧ w'.cell? ⟨g7, 4, none⟩ = some (.slice t4.1 t4.2.1 t4.2.2) ∧ w'.cell? ⟨g7, 5, none⟩ = some (.slice t5.1 t5.2.1 t5.2.2)) (first | go_keep | (exact ⟨ya6, yx0, yx1, yt0, yt1, yt2, yt3, yt4, yt5⟩) | (exact ⟨za6, zx0, zx1, zt0, zt1, zt2, zt3, zt4, zt5⟩) | (exact ⟨va6, vx0, vx1, vt0, vt1, vt2, vt3, vt4, vt5⟩) | (exact ⟨(World.cell?_setCell_other _ _ _ _ (by first | exact addr_ne hN6 | exact addr_ne hN7 | exact addr_ne hNb | exact (addr_ne hN6).symm | exact (addr_ne hN7).symm | exact (addr_ne hNb).symm)).trans va6, (World.cell?_setCell_other _ _ _ _ (by first | exact addr_ne hN6 | exact addr_ne hN7 | exact addr_ne hNb | exact (addr_ne hN6).symm | exact (addr_ne hN7).symm | exact (addr_ne hNb).symm)).trans vx0, (World.cell?_setCell_other _ _ _ _ (by first | exact addr_ne hN6 | exact addr_ne hN7 | exact addr_ne hNb | exact (addr_ne hN6).symm | exact (addr_ne hN7).symm | exact (addr_ne hNb).symm)).trans vx1, (World.cell?_setCell_other _ _ _ _ (by first | exact addr_ne hN6 | exact addr_ne hN7 | exact addr_ne hNb | exact (addr_ne hN6).symm | exact (addr_ne hN7).symm | exact (addr_ne hNb).symm)).trans vt0, (World.cell?_setCell_other _ _ _ _ (by first | exact addr_ne hN6 | exact addr_ne hN7 | exact addr_ne hNb | exact (addr_ne hN6).symm | exact (addr_ne hN7).symm | exact (addr_ne hNb).symm)).trans vt1, (World.cell?_setCell_other _ _ _ _ (by first | exact addr_ne hN6 | exact addr_ne hN7 | exact addr_ne hNb | exact (addr_ne hN6).symm | exact (addr_ne hN7).symm | exact (addr_ne hNb).symm)).trans vt2, (World.cell?_setCell_other _ _ _ _ (by first | exact addr_ne hN6 | exact addr_ne hN7 | exact addr_ne hNb | exact (addr_ne hN6).symm | exact (addr_ne hN7).symm | exact (addr_ne hNb).symm)).trans vt3, (World.cell?_setCell_other _ _ _ _ (by first | exact addr_ne hN6 | exact addr_ne hN7 | exact addr_ne hNb | exact (addr_ne hN6).symm | exact (addr_ne hN7).symm | exact (addr_ne hNb).symm)).trans vt4, (World.cell?_setCell_other _ _ _ _ (by first | exact addr_ne hN6 | exact addr_ne hN7 | exact addr_ne hNb | exact (addr_ne hN6).symm | exact (addr_ne hN7).symm | exact (addr_ne hNb).symm)).trans vt5⟩) | (exact ⟨(World.cell?_setCell_other _ _ _ _ (by first | exact addr_ne hN6 | exact addr_ne hN7 | exact addr_ne hNb | exact (addr_ne hN6).symm | exact (addr_ne hN7).symm | exact (addr_ne hNb).symm)).trans ((World.cell?_setCell_other _ _ _ _ (by first | exact addr_ne hN6 | exact addr_ne hN7 | exact addr_ne hNb | exact (addr_ne hN6).symm | exact (addr_ne hN7).symm | exact (addr_ne hNb).symm)).trans va6), (World.cell?_setCell_other _ _ _ _ (by first | exact addr_ne hN6 | exact addr_ne hN7 | exact addr_ne hNb | exact (addr_ne hN6).symm | exact (addr_ne hN7).symm | exact (addr_ne hNb).symm)).trans ((World.cell?_setCell_other _ _ _ _ (by first | exact addr_ne hN6 | exact addr_ne hN7 | exact addr_ne hNb | exact (addr_ne hN6).symm | exact (addr_ne hN7).symm | exact (addr_ne hNb).symm)).trans vx0), (World.cell?_setCell_other _ _ _ _ (by first | exact addr_ne hN6 | exact addr_ne hN7 | exact addr_ne hNb | exact (addr_ne hN6).symm | exact (addr_ne hN7).symm | exact (addr_ne hNb).symm)).trans ((World.cell?_setCell_other _ _ _ _ (by first | exact addr_ne hN6 | exact addr_ne hN7 | exact addr_ne hNb | exact (addr_ne hN6).symm | exact (addr_ne hN7).symm | exact (addr_ne hNb).symm)).trans vx1), (World.cell?_setCell_other _ _ _ _ (by first | exact addr_ne hN6 | exact addr_ne hN7 | exact addr_ne hNb | exact (addr_ne hN6).symm | exact (addr_ne hN7).symm | exact (addr_ne hNb).symm)).trans ((World.cell?_setCell_other _ _ _ _ (by first | exact addr_ne hN6 | exact addr_ne hN7 | exact addr_ne hNb | exact (addr_ne hN6).symm | exact (addr_ne hN7).symm | exact (addr_ne hNb).symm)).trans vt0), (World.cell?_setCell_other _ _ _ _ (by first | exact addr_ne hN6 | exact addr_ne hN7 | exact addr_ne hNb | exact (addr_ne hN6).symm | exact (addr_ne hN7).symm | exact (addr_ne hNb).symm)).trans ((World.cell?_setCell_other _ _ _ _ (by first | exact addr_ne hN6 | exact addr_ne hN7 | exact addr_ne hNb | exact (addr_ne hN6).symm | exact (addr_ne hN7).symm | exact (addr_ne hNb).symm)).trans vt1), (World.cell?_setCell_other _ _ _ _ (by first | exact addr_ne hN6 | exact addr_ne hN7 | exact addr_ne hNb | exact (addr_ne hN6).symm | exact (addr_ne hN7).symm | exact (addr_ne hNb).symm)).trans ((World.cell?_setCell_other _ _ _ _ (by first | exact addr_ne hN6 | exact addr_ne hN7 | exact addr_ne hNb | exact (addr_ne hN6).symm | exact (addr_ne hN7).symm | exact (addr_ne hNb).symm)).trans vt2), (World.cell?_setCell_other _ _ _ _ (by first | exact addr_ne hN6 | exact addr_ne hN7 | exact addr_ne hNb | exact (addr_ne hN6).symm | exact (addr_ne hN7).symm | exact (addr_ne hNb).symm)).trans ((World.cell?_setCell_other _ _ _ _ (by first | exact addr_ne hN6 | exact addr_ne hN7 | exact addr_ne hNb | exact (addr_ne hN6).symm | exact (addr_ne hN7).symm | exact (addr_ne hNb).symm)).trans vt3), (World.cell?_setCell_other _ _ _ _ (by first | exact addr_ne hN6 | exact addr_ne hN7 | exact addr_ne hNb | exact (addr_ne hN6).symm | exact (addr_ne hN7).symm | exact (addr_ne hNb).symm)).trans ((World.cell?_setCell_other _ _ _ _ (by first | exact addr_ne hN6 | exact addr_ne hN7 | exact addr_ne hNb | exact (addr_ne hN6).symm | exact (addr_ne hN7).symm | exact (addr_ne hNb).symm)).trans vt4), (World.cell?_setCell_other _ _ _ _ (by first | exact addr_ne hN6 | exact addr_ne hN7 | exact addr_ne hNb | exact (addr_ne hN6).symm | exact (addr_ne hN7).symm | exact (addr_ne hNb).symm)).trans ((World.cell?_setCell_other _ _ _ _ (by first | exact addr_ne hN6 | exact addr_ne hN7 | exact addr_ne hNb | exact (addr_ne hN6).symm | exact (addr_ne hN7).symm | exact (addr_ne hNb).symm)).trans vt5)⟩)) (first | (go_at_call 40; refine (CB.out _ (below_drewN (Below.refl _ _) 1)).mono ?_; rintro e w6 ⟨d, he, hd, hb6'⟩; obtain ⟨u0, u1, u2, u3, u4, u5, rfl⟩ := six hd.1; have he' : e = .returned (.agg #[.slice u0.1 u0.2.1 u0.2.2, .slice u1.1 u1.2.1 u1.2.2, .slice u2.1 u2.2.1 u2.2.2, .slice u3.1 u3.2.1 u3.2.2, .slice u4.1 u4.2.1 u4.2.2, .slice u5.1 u5.2.1 u5.2.2]) := he; subst he'; have hb6 : Below w5.heap.size w5 w6 := (below_drewN (Below.refl _ _) 1).trans hb6'; have ya6 := (hb6.cell (p := ⟨g6, 1, none⟩) hg6).trans xa6; have yx0 := (hb6.cell (p := ⟨b, o, none⟩) hb5).trans xx0; have yx1 := (hb6.cell (p := ⟨b, o + 1, none⟩) hb5).trans xx1; have yt0 := (hb6.cell (p := ⟨g7, 0, none⟩) hg7).trans xt0; have yt1 := (hb6.cell (p := ⟨g7, 1, none⟩) hg7).trans xt1; have yt2 := (hb6.cell (p := ⟨g7, 2, none⟩) hg7).trans xt2; have yt3 := (hb6.cell (p := ⟨g7, 3, none⟩) hg7).trans xt3; have yt4 := (hb6.cell (p := ⟨g7, 4, none⟩) hg7).trans xt4; have yt5 := (hb6.cell (p := ⟨g7, 5, none⟩) hg7).trans xt5;  have HDU : Hid (DgAt w6 [u0, u1, u2, u3, u4, u5] (digitH P)) := hd; clear he hd hb6') | (go_at_call 37; refine (CM.out _ _ _ _ _ _ _ hb6 HDU.out).mono ?_; rintro e w7 ⟨d, he, hd, hb7'⟩; obtain ⟨e0, e1, e2, e3, e4, e5, rfl⟩ := six hd.1; have he' : e = .returned (.agg #[.slice e0.1 e0.2.1 e0.2.2, .slice e1.1 e1.2.1 e1.2.2, .slice e2.1 e2.2.1 e2.2.2, .slice e3.1 e3.2.1 e3.2.2, .slice e4.1 e4.2.1 e4.2.2, .slice e5.1 e5.2.1 e5.2.2]) := he; subst he'; have hb7 : Below w5.heap.size w5 w7 := hb6.trans (hb7'.mono hb6.size); have za6 := (hb7.cell (p := ⟨g6, 1, none⟩) hg6).trans xa6; have zx0 := (hb7.cell (p := ⟨b, o, none⟩) hb5).trans xx0; have zx1 := (hb7.cell (p := ⟨b, o + 1, none⟩) hb5).trans xx1; have zt0 := (hb7.cell (p := ⟨g7, 0, none⟩) hg7).trans xt0; have zt1 := (hb7.cell (p := ⟨g7, 1, none⟩) hg7).trans xt1; have zt2 := (hb7.cell (p := ⟨g7, 2, none⟩) hg7).trans xt2; have zt3 := (hb7.cell (p := ⟨g7, 3, none⟩) hg7).trans xt3; have zt4 := (hb7.cell (p := ⟨g7, 4, none⟩) hg7).trans xt4; have zt5 := (hb7.cell (p := ⟨g7, 5, none⟩) hg7).trans xt5;  have HDV : Hid (DgAt w7 [e0, e1, e2, e3, e4, e5] (outAt (digitH E) (digitH P))) := hd; clear he hd hb7') | (go_at_call 36; refine (CW.out _ _ _ _ _ _ _ hb7.size HDV.out).mono ?_; rintro e w8 ⟨u, rfl, hu, hb8'⟩; have hb8 : Below w5.heap.size w5 w8 := hb7.trans (hb8'.mono hb7.size); have va6 := (hb8.cell (p := ⟨g6, 1, none⟩) hg6).trans xa6; have vx0 := (hb8.cell (p := ⟨b, o, none⟩) hb5).trans xx0; have vx1 := (hb8.cell (p := ⟨b, o + 1, none⟩) hb5).trans xx1; have vt0 := (hb8.cell (p := ⟨g7, 0, none⟩) hg7).trans xt0; have vt1 := (hb8.cell (p := ⟨g7, 1, none⟩) hg7).trans xt1; have vt2 := (hb8.cell (p := ⟨g7, 2, none⟩) hg7).trans xt2; have vt3 := (hb8.cell (p := ⟨g7, 3, none⟩) hg7).trans xt3; have vt4 := (hb8.cell (p := ⟨g7, 4, none⟩) hg7).trans xt4; have vt5 := (hb8.cell (p := ⟨g7, 5, none⟩) hg7).trans xt5;  have HU : Hid (NewH w7.heap.size w8 u (popH h)) := hu; have m0 := (hb8.cell (p := ⟨w.heap.size, 0, none⟩) hN5).trans n0'; have m1 := (hb8.cell (p := ⟨w.heap.size, 1, none⟩) hN5).trans n1'; have q0 := (World.frozen?_of_block (a := ⟨w.heap.size, 0, none⟩) (hb8.block _ hN5)).trans f0'; have q1 := (World.frozen?_of_block (a := ⟨w.heap.size, 1, none⟩) (hb8.block _ hN5)).trans f1'; have hw57 := hb7.size; have hN8 := Nat.lt_of_lt_of_le hN5 hb8.size; clear hu hb8'))
  all_goals
    go_wp2
    refine bodyPost_ret (by simp [results, Tryd.results17, go_sem, m0, m1]; try rfl) rfl ?_
    refine ⟨_, rfl, ?_, ?_⟩
    · exact (HU.out.kept (gb_set (World.grownBy.refl _ _) _ _ _ _) (fun f e => by have := Option.some.inj e; omega)).weak (by omega)
    · have hb9 := HBW5.out.trans (hb8.mono HBW5.out.size)
      exact (hb9.setCell (p := ⟨w.heap.size, 0, none⟩) (Nat.le_refl _) _).setCell (p := ⟨w.heap.size, 1, none⟩) (Nat.le_refl _) _
/-- What is wrong with a heap that is to be popped. -/
def popE (h : List (Int × List (Int × Int))) : Nat := if binoE h = 0 then (if h = [] then 5 else 0) else binoE h
theorem dPop_bad (v : Value) (h : List (Int × List (Int × Int))) (k : Nat) (w : World) (H : HpAt w v h) (f : FitH h) (hk : popE h = k) (h0 : k ≠ 0) :
    Calls Tryd.prog 17 #[v] w fun e w' => e = .returned (.tuple #[.agg #[.int .i64 0, .int .i64 0], .slice none 0 0, .iface 56 (.int .i64 k)]) ∧ Below w.heap.size w w' := by
  obtain ⟨p, c, rfl⟩ := H.form
  have k1 := fun w1 (hb : Below w.heap.size w w1) => dcheck_any _ h w1 (H.below hb) f.1 f.2
  unfold popE at hk
  by_cases e1 : binoE h = 0
  · rw [if_pos e1] at hk
    rw [e1, errV_zero] at k1
    by_cases e2 : h = []
    · rw [if_pos e2] at hk
      subst hk
      subst e2
      exact dPop_B p c w k1
    · rw [if_neg e2] at hk; exact absurd hk.symm h0
  · rw [if_neg e1] at hk
    rw [errV_pos e1, hk] at k1
    exact dPop_A p _ c k w k1
theorem dPop_good (v : Value) (g : List TrL) (w : World) (H : HpAt w v (zH g)) (G : OkH g) (hn : g ≠ []) :
    Calls Tryd.prog 17 #[v] w fun e w' => ∃ (x : Int × Int) (l : List (Int × Int)) (r : Nat) (u : Value), e = .returned (.tuple #[.agg #[.int .i64 x.1, .int .i64 x.2], u, .nilIface]) ∧ g[atTo g g.length]? = some (r, x :: l) ∧ NewH w.heap.size w' u (popH g) ∧ Below w.heap.size w w' := by
  obtain ⟨p, c, hv⟩ := H.form
  rw [zH_len] at hv
  subst hv
  have k1 := fun w1 (hb : Below w.heap.size w w1) => dcheck_any _ _ w1 (H.below hb) G.fit.1 G.fit.2
  rw [binoE_ok G, errV_zero] at k1
  obtain ⟨r, ⟨x0, x1⟩, l, e, _⟩ := G.pop hn
  have hm := List.mem_of_getElem? e
  have hpos : 0 < g.length := List.length_pos_iff.2 hn
  refine (dPop_C p g.length c x0 x1 r _ l g w hpos (G.rank _ hm) (by simp) rfl G e rfl H k1 fun w1 hb => ?_).mono fun e' w' ⟨u, a1, a2, a3⟩ => ⟨(x0, x1), l, r, u, a1, e, a2, a3⟩
  refine (least_any _ g w w1 H hb G hn).mono fun e' w' ⟨r', l', q, c', a1, a2, a3, a4⟩ => ?_
  rw [e] at a2
  simp only [Option.some.injEq, Prod.mk.injEq] at a2
  obtain ⟨rfl, rfl⟩ := a2
  exact ⟨q, c', a1, a3, a4⟩
/-- What Pop tells: the least one, and what is left. -/
theorem dPop_ok (v : Value) (g : List TrL) (w : World) (H : HpAt w v (zH g)) (G : OkH g) (hn : g ≠ []) : ∃ x : Int × Int, OkH (popH g) ∧ (x :: itemsH (popH g)).Perm (itemsH g) ∧ (∀ y ∈ itemsH g, x.1 ≤ y.1) ∧
    Calls Tryd.prog 17 #[v] w fun e w' => ∃ u : Value, e = .returned (.tuple #[.agg #[.int .i64 x.1, .int .i64 x.2], u, .nilIface]) ∧ NewH w.heap.size w' u (popH g) ∧ Below w.heap.size w w' := by
  obtain ⟨r, x, l, e, _, _, _, o1, o2, o3⟩ := G.pop hn
  refine ⟨x, o1, o2, o3, (dPop_good v g w H G hn).mono fun e' w' ⟨x', l', r', u, a1, a2, a3, a4⟩ => ?_⟩
  rw [e] at a2
  simp only [Option.some.injEq, Prod.mk.injEq, List.cons.injEq] at a2
  obtain ⟨_, rfl, _⟩ := a2
  exact ⟨u, a1, a3, a4⟩
#print axioms dPop_ok
#print axioms dPop_bad
#print axioms dPop_good
end Go.Proofs.YtmkjalpgeljnkaaDoor
