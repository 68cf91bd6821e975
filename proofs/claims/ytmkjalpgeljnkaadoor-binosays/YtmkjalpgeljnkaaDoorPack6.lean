/-
  Texts that the proof leans on, packed: DPop, Same, As, Told, LawBSays1.
-/
import Derived.Test.YtmkjalpgeljnkaaDoorPack5
import Derived.Test.YtmkjalpgeljnkaaDoorPack3
import Derived.Test.YtmkjalpgeljnkaaDoorPack1
import Derived.Laws.StructEq
import Derived.Shelf.SlicesE.Kit
import Derived.LaidEql
import Derived.Stop.Asserts
import Derived.RowKitTokens
import Derived.Test.YtmkjalpgeljnkaaDoorPack4

/-
  bino.Pop.
-/
namespace Go.Proofs.YtmkjalpgeljnkaaDoor
open Go.RowKit Go.Sort Go.Proofs

/-- The cells of an item that is told stay as they are. -/
theorem told_two {w w1 : World} (h : Below (w.alloc (.cells #[.int .i64 0, .int .i64 0] 24)).heap.size (w.alloc (.cells #[.int .i64 0, .int .i64 0] 24)) w1) : w1.cell? ⟨w.heap.size, 0, none⟩ = some (.int .i64 0) ∧ w1.cell? ⟨w.heap.size, 1, none⟩ = some (.int .i64 0) ∧ w1.frozen? ⟨w.heap.size, 0, none⟩ = false ∧ w1.frozen? ⟨w.heap.size, 1, none⟩ = false ∧ w.heap.size < w1.heap.size ∧ Below w.heap.size w w1 := by
  have hlt : w.heap.size < (w.alloc (.cells #[.int .i64 0, .int .i64 0] 24)).heap.size := by simp
  have hb : Below w.heap.size w (w.alloc (.cells #[.int .i64 0, .int .i64 0] 24)) := (Below.refl _ _).alloc (Nat.le_refl _) _
  exact ⟨(h.cell (p := ⟨w.heap.size, 0, none⟩) hlt).trans (by simp), (h.cell (p := ⟨w.heap.size, 1, none⟩) hlt).trans (by simp), (World.frozen?_of_block (a := ⟨w.heap.size, 0, none⟩) (h.block _ hlt)).trans (by simp), (World.frozen?_of_block (a := ⟨w.heap.size, 1, none⟩) (h.block _ hlt)).trans (by simp), Nat.lt_of_lt_of_le hlt h.size, hb.trans (h.mono hb.size)⟩
theorem digitH_erase : ∀ {h : List TrL} {a r : Nat} {l : List (Int × Int)}, h.Pairwise (fun a b => a.1 < b.1) → h[a]? = some (r, l) → ∀ j, (if j = r then [] else digitH h j) = digitH (h.eraseIdx a) j
  | [], a, r, l, _, e, _ => by simp at e
  | t :: h, 0, r, l, hp, e, j => by
    simp only [List.getElem?_cons_zero, Option.some.injEq] at e
    subst e
    have hq := (List.pairwise_cons.1 hp).1
    rw [List.eraseIdx_cons_zero]
    by_cases q : j = r
    · subst q
      rw [if_pos rfl]
      exact (digitH_none fun t ht => by have := hq t ht; simp only at this; omega).symm
    · rw [if_neg q, digitH_ne l h (fun c => q c.symm)]
  | (q, m) :: h, a + 1, r, l, hp, e, j => by
    simp only [List.getElem?_cons_succ] at e
    have hq := (List.pairwise_cons.1 hp).1 (r, l) (List.mem_of_getElem? e)
    simp only at hq
    rw [List.eraseIdx_cons_succ]
    have ih := digitH_erase (List.pairwise_cons.1 hp).2 e j
    by_cases z : q = j
    · subst z
      rw [digitH_eq, if_neg (by omega), digitH_eq]
    · rw [digitH_ne m h z, digitH_ne m (h.eraseIdx a) z]
      exact ih

set_option maxHeartbeats 4000000 in
theorem dPop_A (p : Option Addr) (n cap k : Nat) (w : World)
    (C : Hid (∀ w1, Below w.heap.size w w1 → Calls Tryd.prog 9 #[.slice p n cap] w1 fun e w' => e = .returned (.iface 56 (.int .i64 k)) ∧ Below w1.heap.size w1 w')) :
    Calls Tryd.prog 17 #[.slice p n cap] w fun e w' => e = .returned (.tuple #[.agg #[.int .i64 0, .int .i64 0], .slice none 0 0, .iface 56 (.int .i64 k)]) ∧ Below w.heap.size w w' := by
  have c1 := C.out (w.alloc (.cells #[.int .i64 0, .int .i64 0] 24)) ((Below.refl _ _).alloc (Nat.le_refl _) _)
  clear C
  go_enter Tryd.func17, Tryd.ntmps17
  go_wp2_with fail
  refine c1.mono ?_
  rintro e w1 ⟨rfl, hb1'⟩
  obtain ⟨b0, b1, f0, f1, hlt, hb1⟩ := told_two hb1'
  clear hb1' c1
  go_wp2
  refine bodyPost_ret (by simp [results, Tryd.results17, go_sem, b0, b1]; try rfl) rfl ?_
  exact ⟨rfl, (hb1.setCell (p := ⟨w.heap.size, 0, none⟩) (Nat.le_refl _) _).setCell (p := ⟨w.heap.size, 1, none⟩) (Nat.le_refl _) _⟩
set_option maxHeartbeats 4000000 in
theorem dPop_B (p : Option Addr) (cap : Nat) (w : World)
    (C : Hid (∀ w1, Below w.heap.size w w1 → Calls Tryd.prog 9 #[.slice p 0 cap] w1 fun e w' => e = .returned .nilIface ∧ Below w1.heap.size w1 w')) :
    Calls Tryd.prog 17 #[.slice p 0 cap] w fun e w' => e = .returned (.tuple #[.agg #[.int .i64 0, .int .i64 0], .slice none 0 0, .iface 56 (.int .i64 5)]) ∧ Below w.heap.size w w' := by
  have c1 := C.out (w.alloc (.cells #[.int .i64 0, .int .i64 0] 24)) ((Below.refl _ _).alloc (Nat.le_refl _) _)
  clear C
  go_enter Tryd.func17, Tryd.ntmps17
  go_wp2_with fail
  refine c1.mono ?_
  rintro e w1 ⟨rfl, hb1'⟩
  obtain ⟨b0, b1, f0, f1, hlt, hb1⟩ := told_two hb1'
  clear hb1' c1
  go_wp2
  refine bodyPost_ret (by simp [results, Tryd.results17, go_sem, b0, b1]; try rfl) rfl ?_
  exact ⟨rfl, (hb1.setCell (p := ⟨w.heap.size, 0, none⟩) (Nat.le_refl _) _).setCell (p := ⟨w.heap.size, 1, none⟩) (Nat.le_refl _) _⟩
set_option maxHeartbeats 32000000 in
set_option maxRecDepth 8000 in
theorem dPop_C (p : Option Addr) (n cap : Nat) (x0 x1 : Int) (r ln : Nat) (l : List (Int × Int)) (h : List TrL) (w : World) (hn : 0 < n) (hr : r ≤ 5) (hln : 0 < ln) (HN : Hid (h.length = n)) (HG : Hid (OkH h)) (HE : Hid (h[atTo h n]? = some (r, (x0, x1) :: l))) (HLN : Hid (((x0, x1) :: l).length = ln)) (HA : Hid (HpAt w (.slice p n cap) (zH h)))
    (C : Hid (∀ w1, Below w.heap.size w w1 → Calls Tryd.prog 9 #[.slice p n cap] w1 fun e w' => e = .returned .nilIface ∧ Below w1.heap.size w1 w'))
    (CL : Hid (∀ w1, Below w.heap.size w w1 → Calls Tryd.prog 39 #[.slice p n cap] w1 fun e w' => ∃ (q : Option Addr) (c : Nat), e = .returned (.agg #[.int .i64 (r : Int), .slice q ln c]) ∧ Sl w (.slice q ln c) ((x0, x1) :: l).toArray ∧ Below w1.heap.size w1 w')) :
    Calls Tryd.prog 17 #[.slice p n cap] w fun e w' => ∃ u, e = .returned (.tuple #[.agg #[.int .i64 x0, .int .i64 x1], u, .nilIface]) ∧ NewH w.heap.size w' u (popH h) ∧ Below w.heap.size w w' := by
  have hnz : ((n : Int) == 0) = false := by rw [beq_eq_false_iff_ne]; omega
  have hlz : (0 : Int) < (ln : Int) := by omega
  have hrz : (r : Int) < 6 := by omega
  have c1 := C.out (w.alloc (.cells #[.int .i64 0, .int .i64 0] 24)) ((Below.refl _ _).alloc (Nat.le_refl _) _)
  clear C
  go_enter Tryd.func17, Tryd.ntmps17
  go_wp2_with fail
  refine c1.mono ?_
  rintro e w1 ⟨rfl, hb1'⟩
  obtain ⟨n0, n1, f0, f1, hlt, hb1⟩ := told_two hb1'
  clear hb1' c1
  go_wp2_with fail
  refine (CL.out w1 hb1).mono ?_
  rintro e w2 ⟨q, c, rfl, hsl, hb2'⟩
  have hb2 := hb1.trans (hb2'.mono hb1.size)
  have hw1w2 : w1.heap.size ≤ w2.heap.size := hb2'.size
  obtain ⟨q', c', eq, hqc, hq0 | ⟨b, o, rfl, hrd⟩⟩ := id hsl
  · rw [List.size_toArray, HLN.out] at hq0; omega
  simp only [Value.slice.injEq] at eq
  obtain ⟨rfl, hq2, rfl⟩ := eq
  clear hq2
  obtain ⟨k0, k1⟩ := hrd.2 0 (by rw [List.size_toArray, HLN.out]; exact hln)
  simp only [Nat.zero_mul, Nat.add_zero] at k0 k1
  have k0' : w.cell? ⟨b, o, none⟩ = some (.int .i64 x0) := k0
  have k1' : w.cell? ⟨b, o + 1, none⟩ = some (.int .i64 x1) := k1
  have hbw : b < w.heap.size := hrd.1
  clear k0 k1 hrd hqc
  have HS2 : Hid (Sl w (.slice (some ⟨b, o, none⟩) ln c) ((x0, x1) :: l).toArray) := hsl
  have HT3 : Hid (TrB (w2.alloc (.cells #[.int .i64 (r : Int), .slice (some ⟨b, o, none⟩) ln c] 37)) w2.heap.size (r : Int) (some ⟨b, o, none⟩, ln, c)) := new_trb w2 (r : Int) (some ⟨b, o, none⟩, ln, c) _ _ rfl
  have HB3 : Hid (Below w2.heap.size w2 (w2.alloc (.cells #[.int .i64 (r : Int), .slice (some ⟨b, o, none⟩) ln c] 37))) := (Below.refl _ _).alloc (Nat.le_refl _) _
  have hb3 := hb2.trans (HB3.out.mono hb2.size)
  have cR := read_any _ h _ (HA.out.below hb3) HG.out
  have HB13 : Hid (Below w1.heap.size w1 (w2.alloc (.cells #[.int .i64 (r : Int), .slice (some ⟨b, o, none⟩) ln c] 37))) := hb2'.trans (HB3.out.mono hb2'.size)
  clear hsl hb2'
  go_wp2_with fail
  generalize (w2.alloc (.cells #[.int .i64 (r : Int), .slice (some ⟨b, o, none⟩) ln c] 37)) = w3 at HT3 HB3 hb3 cR HB13 ⊢
  refine cR.mono ?_
  rintro e w4 ⟨d, he, hd, hb4'⟩
  obtain ⟨s0, s1, s2, s3, s4, s5, rfl⟩ := six hd.1
  have he' : e = .returned (.agg #[.slice s0.1 s0.2.1 s0.2.2, .slice s1.1 s1.2.1 s1.2.2, .slice s2.1 s2.2.1 s2.2.2, .slice s3.1 s3.2.1 s3.2.2, .slice s4.1 s4.2.1 s4.2.2, .slice s5.1 s5.2.1 s5.2.2]) := he
  subst he'
  have HT4 : Hid (TrB w4 w2.heap.size (r : Int) (some ⟨b, o, none⟩, ln, c)) := HT3.out.below hb4' HT3.out.lt
  have HB14 : Hid (Below w1.heap.size w1 w4) := HB13.out.trans (hb4'.mono HB13.out.size)
  have HB34 : Hid (Below w2.heap.size w2 w4) := HB3.out.trans (hb4'.mono HB3.out.size)
  have HD4 : Hid (DgAt w4 [s0, s1, s2, s3, s4, s5] (digitH h)) := hd.below hb4'
  clear he hd hb4' cR HT3 HB3 hb3 HB13
  obtain ⟨hlt4, y0, y1, _, _⟩ := HT4.out
  simp only at y1
  obtain ⟨sr, es, _⟩ := HD4.out.2 r (by omega)
  have hsr : [Value.slice s0.1 s0.2.1 s0.2.2, .slice s1.1 s1.2.1 s1.2.2, .slice s2.1 s2.2.1 s2.2.2, .slice s3.1 s3.2.1 s3.2.2, .slice s4.1 s4.2.1 s4.2.2, .slice s5.1 s5.2.1 s5.2.2][r]? = some (.slice sr.1 sr.2.1 sr.2.2) := by
    have := congrArg (Option.map fun s : SlV => Value.slice s.1 s.2.1 s.2.2) es
    rw [← List.getElem?_map] at this
    exact this
  clear es
  obtain ⟨t0, t1, t2, t3, t4, t5, hset⟩ := six (d := [s0, s1, s2, s3, s4, s5].set r (none, 0, 0)) (by rw [List.length_set]; rfl)
  have hsv : [Value.slice s0.1 s0.2.1 s0.2.2, .slice s1.1 s1.2.1 s1.2.2, .slice s2.1 s2.2.1 s2.2.2, .slice s3.1 s3.2.1 s3.2.2, .slice s4.1 s4.2.1 s4.2.2, .slice s5.1 s5.2.1 s5.2.2].set r (.slice none 0 0) = [.slice t0.1 t0.2.1 t0.2.2, .slice t1.1 t1.2.1 t1.2.2, .slice t2.1 t2.2.1 t2.2.2, .slice t3.1 t3.2.1 t3.2.2, .slice t4.1 t4.2.1 t4.2.2, .slice t5.1 t5.2.1 t5.2.2] := by
    have := congrArg (List.map fun s : SlV => Value.slice s.1 s.2.1 s.2.2) hset
    rw [List.map_set] at this
    exact this
  have HD5 : Hid (DgAt w4 [t0, t1, t2, t3, t4, t5] (digitH (h.eraseIdx (atTo h n)))) := by
    show DgAt _ _ _
    rw [← hset]
    exact (HD4.out.set (r := r) (s := (none, 0, 0)) (Sl.nil w4)).congr fun j _ => digitH_erase HG.out.isH.rise HE.out j
  have HSV : Hid (_ = _) := hsv
  clear hset hsv HD4
  go_wp2_with fail
  rw [HSV.out]
  have HX7 : Hid (WrE ES (w4.alloc (.cells #[.slice t0.1 t0.2.1 t0.2.2, .slice t1.1 t1.2.1 t1.2.2, .slice t2.1 t2.2.1 t2.2.2, .slice t3.1 t3.2.1 t3.2.2, .slice t4.1 t4.2.1 t4.2.2, .slice t5.1 t5.2.1 t5.2.2] 62)) w4.heap.size 0 [t0, t1, t2, t3, t4, t5]) := new_six w4 t0 t1 t2 t3 t4 t5 _
  have HB5 : Hid (Below w4.heap.size w4 (w4.alloc (.cells #[.slice t0.1 t0.2.1 t0.2.2, .slice t1.1 t1.2.1 t1.2.2, .slice t2.1 t2.2.1 t2.2.2, .slice t3.1 t3.2.1 t3.2.2, .slice t4.1 t4.2.1 t4.2.2, .slice t5.1 t5.2.1 t5.2.2] 62))) := (Below.refl _ _).alloc (Nat.le_refl _) _
  have xa6 := (HB5.out.cell (p := ⟨w2.heap.size, 1, none⟩) hlt4).trans y1
  have hw24 : w2.heap.size ≤ w4.heap.size := HB34.out.size
  have hw12 : w1.heap.size ≤ w4.heap.size := HB14.out.size
  have HBW5 : Hid (Below w.heap.size w (w4.alloc (.cells #[.slice t0.1 t0.2.1 t0.2.2, .slice t1.1 t1.2.1 t1.2.2, .slice t2.1 t2.2.1 t2.2.2, .slice t3.1 t3.2.1 t3.2.2, .slice t4.1 t4.2.1 t4.2.2, .slice t5.1 t5.2.1 t5.2.2] 62))) := (hb1.trans (HB14.out.mono hb1.size)).trans (HB5.out.mono (Nat.le_trans hb1.size hw12))
  have n0' := ((HB14.out.trans (HB5.out.mono hw12)).cell (p := ⟨w.heap.size, 0, none⟩) hlt).trans n0
  have n1' := ((HB14.out.trans (HB5.out.mono hw12)).cell (p := ⟨w.heap.size, 1, none⟩) hlt).trans n1
  have f0' := (World.frozen?_of_block (a := ⟨w.heap.size, 0, none⟩) ((HB14.out.trans (HB5.out.mono hw12)).block _ hlt)).trans f0
  have f1' := (World.frozen?_of_block (a := ⟨w.heap.size, 1, none⟩) ((HB14.out.trans (HB5.out.mono hw12)).block _ hlt)).trans f1
  have hNw : w.heap.size < w4.heap.size := Nat.lt_of_lt_of_le hlt hw12
  have hN6 : w.heap.size < w2.heap.size := Nat.lt_of_lt_of_le hlt hw1w2
  have HD6 : Hid (DgAt (w4.alloc (.cells #[.slice t0.1 t0.2.1 t0.2.2, .slice t1.1 t1.2.1 t1.2.2, .slice t2.1 t2.2.1 t2.2.2, .slice t3.1 t3.2.1 t3.2.2, .slice t4.1 t4.2.1 t4.2.2, .slice t5.1 t5.2.1 t5.2.2] 62)) [t0, t1, t2, t3, t4, t5] (digitH (h.eraseIdx (atTo h n)))) := HD5.out.below HB5.out
  have hsz5 : (w4.alloc (.cells #[.slice t0.1 t0.2.1 t0.2.2, .slice t1.1 t1.2.1 t1.2.2, .slice t2.1 t2.2.1 t2.2.2, .slice t3.1 t3.2.1 t3.2.2, .slice t4.1 t4.2.1 t4.2.2, .slice t5.1 t5.2.1 t5.2.2] 62)).heap.size = w4.heap.size + 1 := by simp
  have hg7 : w4.heap.size < (w4.alloc (.cells #[.slice t0.1 t0.2.1 t0.2.2, .slice t1.1 t1.2.1 t1.2.2, .slice t2.1 t2.2.1 t2.2.2, .slice t3.1 t3.2.1 t3.2.2, .slice t4.1 t4.2.1 t4.2.2, .slice t5.1 t5.2.1 t5.2.2] 62)).heap.size := HX7.out.lt
  have hg6 : w2.heap.size < (w4.alloc (.cells #[.slice t0.1 t0.2.1 t0.2.2, .slice t1.1 t1.2.1 t1.2.2, .slice t2.1 t2.2.1 t2.2.2, .slice t3.1 t3.2.1 t3.2.2, .slice t4.1 t4.2.1 t4.2.2, .slice t5.1 t5.2.1 t5.2.2] 62)).heap.size := by omega
  have hb5 : b < (w4.alloc (.cells #[.slice t0.1 t0.2.1 t0.2.2, .slice t1.1 t1.2.1 t1.2.2, .slice t2.1 t2.2.1 t2.2.2, .slice t3.1 t3.2.1 t3.2.2, .slice t4.1 t4.2.1 t4.2.2, .slice t5.1 t5.2.1 t5.2.2] 62)).heap.size := by omega
  have hN5 : w.heap.size < (w4.alloc (.cells #[.slice t0.1 t0.2.1 t0.2.2, .slice t1.1 t1.2.1 t1.2.2, .slice t2.1 t2.2.1 t2.2.2, .slice t3.1 t3.2.1 t3.2.2, .slice t4.1 t4.2.1 t4.2.2, .slice t5.1 t5.2.1 t5.2.2] 62)).heap.size := by omega
  have xx0 := (HBW5.out.cell (p := ⟨b, o, none⟩) hbw).trans k0'
  have xx1 := (HBW5.out.cell (p := ⟨b, o + 1, none⟩) hbw).trans k1'
  obtain ⟨⟨xt0, xt1, xt2, xt3, xt4, xt5⟩, _⟩ := HX7.out.six
  have hNb : ¬ b = w.heap.size := by omega
  clear HSV HX7 HB5 HD5 HB14 HB34 HT4 y0 y1 n0 n1 f0 f1 hsr hb1 hb2 k0' k1' hsz5
  generalize (w4.alloc (.cells #[.slice t0.1 t0.2.1 t0.2.2, .slice t1.1 t1.2.1 t1.2.2, .slice t2.1 t2.2.1 t2.2.2, .slice t3.1 t3.2.1 t3.2.2, .slice t4.1 t4.2.1 t4.2.2, .slice t5.1 t5.2.1 t5.2.2] 62)) = w5 at *
  have hN7' : ¬ w4.heap.size = w.heap.size := by omega
  have hN6' : ¬ w2.heap.size = w.heap.size := by omega
  clear hNw hN6 hlt4 hw24 hw12 hw1w2
  generalize w4.heap.size = g7 at *
  generalize w2.heap.size = g6 at *
  have hN7 := hN7'
  have hN6 := hN6'
  clear hN7' hN6'
  obtain ⟨E, hE⟩ : ∃ E, h.eraseIdx (atTo h n) = E := ⟨_, rfl⟩
  obtain ⟨P, hP⟩ : ∃ P, partsL r ((x0, x1) :: l) r = P := ⟨_, rfl⟩
  have HPO : Hid (OkH E ∧ OkH P ∧ popH h = meldH E P ∧ (itemsH E).length + (itemsH P).length ≤ 60 ∧ ((x0, x1) :: l).length = 2 ^ r) := by
    obtain ⟨r', x', l', p1, p2, p3, p4, p5, p6, _⟩ := HG.out.pop (fun e => by have := HN.out; rw [e] at this; simp at this; omega)
    rw [HN.out, HE.out] at p1
    simp only [Option.some.injEq, Prod.mk.injEq, List.cons.injEq] at p1
    obtain ⟨rfl, rfl, rfl⟩ := p1
    rw [HN.out] at p2 p4
    rw [hE] at p2 p4
    rw [hP] at p3 p4
    have hT := HG.out.isH.trees _ (List.mem_of_getElem? HE.out)
    refine ⟨p2, p3, p4, ?_, hT.len⟩
    have q1 := (meldH_good p2.isH p3.isH (by have := p2.size; have := p3.size; omega)).2.length_eq
    rw [← p4, List.length_append] at q1
    have := p5.size
    omega
  have HDE : Hid (DgAt w5 [t0, t1, t2, t3, t4, t5] (digitH E)) := by show DgAt _ _ _; have := HD6.out; rw [hE] at this; exact this
  have HPD : Hid (∀ j, partD r ((x0, x1) :: l) j = digitH P j) := by show ∀ j, _; intro j; rw [← hP]; exact (digitH_partD r _ j).symm
  clear HD6 hE hP
  have CB : Hid (∀ W, Below w5.heap.size w5 W → Calls Tryd.prog 40 #[.slice (some ⟨b, o, none⟩) ln c] W fun e w' => ∃ d, e = .returned (agV d) ∧ DgAt w' d (digitH P) ∧ Below W.heap.size W w') := by
    show ∀ W, _
    intro W hb
    have := below_any (.slice (some ⟨b, o, none⟩) ln c) r ((x0, x1) :: l) W (HS2.out.below (HBW5.out.trans (hb.mono HBW5.out.size))) hr HPO.out.2.2.2.2
    exact this.mono fun e w' ⟨d, a1, a2, a3⟩ => ⟨d, a1, (a2.below a3).congr fun j _ => HPD.out j, a3⟩
  have CM : Hid (∀ W u0 u1 u2 u3 u4 u5, Below w5.heap.size w5 W → DgAt W [u0, u1, u2, u3, u4, u5] (digitH P) → Calls Tryd.prog 37 #[.agg #[.slice t0.1 t0.2.1 t0.2.2, .slice t1.1 t1.2.1 t1.2.2, .slice t2.1 t2.2.1 t2.2.2, .slice t3.1 t3.2.1 t3.2.2, .slice t4.1 t4.2.1 t4.2.2, .slice t5.1 t5.2.1 t5.2.2], .agg #[.slice u0.1 u0.2.1 u0.2.2, .slice u1.1 u1.2.1 u1.2.2, .slice u2.1 u2.2.1 u2.2.2, .slice u3.1 u3.2.1 u3.2.2, .slice u4.1 u4.2.1 u4.2.2, .slice u5.1 u5.2.1 u5.2.2]] W fun e w' => ∃ d, e = .returned (agV d) ∧ DgAt w' d (outAt (digitH E) (digitH P)) ∧ Below W.heap.size W w') := by
    show ∀ W u0 u1 u2 u3 u4 u5, _
    intro W u0 u1 u2 u3 u4 u5 hb hd
    have := melded_any [t0, t1, t2, t3, t4, t5] [u0, u1, u2, u3, u4, u5] (digitH E) (digitH P) W (HDE.out.below hb) hd (dig_len HPO.out.1.isH) (dig_len HPO.out.2.1.isH) (car_len HPO.out.1.isH HPO.out.2.1.isH)
    exact this
  have CW : Hid (∀ W e0 e1 e2 e3 e4 e5, w5.heap.size ≤ W.heap.size → DgAt W [e0, e1, e2, e3, e4, e5] (outAt (digitH E) (digitH P)) → Calls Tryd.prog 36 #[.agg #[.slice e0.1 e0.2.1 e0.2.2, .slice e1.1 e1.2.1 e1.2.2, .slice e2.1 e2.2.1 e2.2.2, .slice e3.1 e3.2.1 e3.2.2, .slice e4.1 e4.2.1 e4.2.2, .slice e5.1 e5.2.1 e5.2.2]] W fun e w' => ∃ u, e = .returned u ∧ NewH W.heap.size w' u (popH h) ∧ Below W.heap.size W w') := by
    show ∀ W e0 e1 e2 e3 e4 e5, _
    intro W e0 e1 e2 e3 e4 e5 hb hd
    have := written_any [e0, e1, e2, e3, e4, e5] (outAt (digitH E) (digitH P)) W hd (out_len HPO.out.1.isH HPO.out.2.1.isH)
    rw [← meldH_six HPO.out.1 HPO.out.2.1 HPO.out.2.2.2.1, ← HPO.out.2.2.1] at this
    exact this
  go_region_held3 (fun w' => w'.cell? ⟨g6, 1, none⟩ = some (.slice (some ⟨b, o, none⟩) ln c) ∧ w'.cell? ⟨b, o, none⟩ = some (.int .i64 x0) ∧ w'.cell? ⟨b, o + 1, none⟩ = some (.int .i64 x1) ∧ w'.cell? ⟨g7, 0, none⟩ = some (.slice t0.1 t0.2.1 t0.2.2) ∧ w'.cell? ⟨g7, 1, none⟩ = some (.slice t1.1 t1.2.1 t1.2.2) ∧ w'.cell? ⟨g7, 2, none⟩ = some (.slice t2.1 t2.2.1 t2.2.2) ∧ w'.cell? ⟨g7, 3, none⟩ = some (.slice t3.1 t3.2.1 t3.2.2) ∧ w'.cell? ⟨g7, 4, none⟩ = some (.slice t4.1 t4.2.1 t4.2.2) ∧ w'.cell? ⟨g7, 5, none⟩ = some (.slice t5.1 t5.2.1 t5.2.2)) (first | go_keep | (exact ⟨ya6, yx0, yx1, yt0, yt1, yt2, yt3, yt4, yt5⟩) | (exact ⟨za6, zx0, zx1, zt0, zt1, zt2, zt3, zt4, zt5⟩) | (exact ⟨va6, vx0, vx1, vt0, vt1, vt2, vt3, vt4, vt5⟩) | (exact ⟨(World.cell?_setCell_other _ _ _ _ (by first | exact addr_ne hN6 | exact addr_ne hN7 | exact addr_ne hNb | exact (addr_ne hN6).symm | exact (addr_ne hN7).symm | exact (addr_ne hNb).symm)).trans va6, (World.cell?_setCell_other _ _ _ _ (by first | exact addr_ne hN6 | exact addr_ne hN7 | exact addr_ne hNb | exact (addr_ne hN6).symm | exact (addr_ne hN7).symm | exact (addr_ne hNb).symm)).trans vx0, (World.cell?_setCell_other _ _ _ _ (by first | exact addr_ne hN6 | exact addr_ne hN7 | exact addr_ne hNb | exact (addr_ne hN6).symm | exact (addr_ne hN7).symm | exact (addr_ne hNb).symm)).trans vx1, (World.cell?_setCell_other _ _ _ _ (by first | exact addr_ne hN6 | exact addr_ne hN7 | exact addr_ne hNb | exact (addr_ne hN6).symm | exact (addr_ne hN7).symm | exact (addr_ne hNb).symm)).trans vt0, (World.cell?_setCell_other _ _ _ _ (by first | exact addr_ne hN6 | exact addr_ne hN7 | exact addr_ne hNb | exact (addr_ne hN6).symm | exact (addr_ne hN7).symm | exact (addr_ne hNb).symm)).trans vt1, (World.cell?_setCell_other _ _ _ _ (by first | exact addr_ne hN6 | exact addr_ne hN7 | exact addr_ne hNb | exact (addr_ne hN6).symm | exact (addr_ne hN7).symm | exact (addr_ne hNb).symm)).trans vt2, (World.cell?_setCell_other _ _ _ _ (by first | exact addr_ne hN6 | exact addr_ne hN7 | exact addr_ne hNb | exact (addr_ne hN6).symm | exact (addr_ne hN7).symm | exact (addr_ne hNb).symm)).trans vt3, (World.cell?_setCell_other _ _ _ _ (by first | exact addr_ne hN6 | exact addr_ne hN7 | exact addr_ne hNb | exact (addr_ne hN6).symm | exact (addr_ne hN7).symm | exact (addr_ne hNb).symm)).trans vt4, (World.cell?_setCell_other _ _ _ _ (by first | exact addr_ne hN6 | exact addr_ne hN7 | exact addr_ne hNb | exact (addr_ne hN6).symm | exact (addr_ne hN7).symm | exact (addr_ne hNb).symm)).trans vt5⟩) | (exact ⟨(World.cell?_setCell_other _ _ _ _ (by first | exact addr_ne hN6 | exact addr_ne hN7 | exact addr_ne hNb | exact (addr_ne hN6).symm | exact (addr_ne hN7).symm | exact (addr_ne hNb).symm)).trans ((World.cell?_setCell_other _ _ _ _ (by first | exact addr_ne hN6 | exact addr_ne hN7 | exact addr_ne hNb | exact (addr_ne hN6).symm | exact (addr_ne hN7).symm | exact (addr_ne hNb).symm)).trans va6), (World.cell?_setCell_other _ _ _ _ (by first | exact addr_ne hN6 | exact addr_ne hN7 | exact addr_ne hNb | exact (addr_ne hN6).symm | exact (addr_ne hN7).symm | exact (addr_ne hNb).symm)).trans ((World.cell?_setCell_other _ _ _ _ (by first | exact addr_ne hN6 | exact addr_ne hN7 | exact addr_ne hNb | exact (addr_ne hN6).symm | exact (addr_ne hN7).symm | exact (addr_ne hNb).symm)).trans vx0), (World.cell?_setCell_other _ _ _ _ (by first | exact addr_ne hN6 | exact addr_ne hN7 | exact addr_ne hNb | exact (addr_ne hN6).symm | exact (addr_ne hN7).symm | exact (addr_ne hNb).symm)).trans ((World.cell?_setCell_other _ _ _ _ (by first | exact addr_ne hN6 | exact addr_ne hN7 | exact addr_ne hNb | exact (addr_ne hN6).symm | exact (addr_ne hN7).symm | exact (addr_ne hNb).symm)).trans vx1), (World.cell?_setCell_other _ _ _ _ (by first | exact addr_ne hN6 | exact addr_ne hN7 | exact addr_ne hNb | exact (addr_ne hN6).symm | exact (addr_ne hN7).symm | exact (addr_ne hNb).symm)).trans ((World.cell?_setCell_other _ _ _ _ (by first | exact addr_ne hN6 | exact addr_ne hN7 | exact addr_ne hNb | exact (addr_ne hN6).symm | exact (addr_ne hN7).symm | exact (addr_ne hNb).symm)).trans vt0), (World.cell?_setCell_other _ _ _ _ (by first | exact addr_ne hN6 | exact addr_ne hN7 | exact addr_ne hNb | exact (addr_ne hN6).symm | exact (addr_ne hN7).symm | exact (addr_ne hNb).symm)).trans ((World.cell?_setCell_other _ _ _ _ (by first | exact addr_ne hN6 | exact addr_ne hN7 | exact addr_ne hNb | exact (addr_ne hN6).symm | exact (addr_ne hN7).symm | exact (addr_ne hNb).symm)).trans vt1), (World.cell?_setCell_other _ _ _ _ (by first | exact addr_ne hN6 | exact addr_ne hN7 | exact addr_ne hNb | exact (addr_ne hN6).symm | exact (addr_ne hN7).symm | exact (addr_ne hNb).symm)).trans ((World.cell?_setCell_other _ _ _ _ (by first | exact addr_ne hN6 | exact addr_ne hN7 | exact addr_ne hNb | exact (addr_ne hN6).symm | exact (addr_ne hN7).symm | exact (addr_ne hNb).symm)).trans vt2), (World.cell?_setCell_other _ _ _ _ (by first | exact addr_ne hN6 | exact addr_ne hN7 | exact addr_ne hNb | exact (addr_ne hN6).symm | exact (addr_ne hN7).symm | exact (addr_ne hNb).symm)).trans ((World.cell?_setCell_other _ _ _ _ (by first | exact addr_ne hN6 | exact addr_ne hN7 | exact addr_ne hNb | exact (addr_ne hN6).symm | exact (addr_ne hN7).symm | exact (addr_ne hNb).symm)).trans vt3), (World.cell?_setCell_other _ _ _ _ (by first | exact addr_ne hN6 | exact addr_ne hN7 | exact addr_ne hNb | exact (addr_ne hN6).symm | exact (addr_ne hN7).symm | exact (addr_ne hNb).symm)).trans ((World.cell?_setCell_other _ _ _ _ (by first | exact addr_ne hN6 | exact addr_ne hN7 | exact addr_ne hNb | exact (addr_ne hN6).symm | exact (addr_ne hN7).symm | exact (addr_ne hNb).symm)).trans vt4), (World.cell?_setCell_other _ _ _ _ (by first | exact addr_ne hN6 | exact addr_ne hN7 | exact addr_ne hNb | exact (addr_ne hN6).symm | exact (addr_ne hN7).symm | exact (addr_ne hNb).symm)).trans ((World.cell?_setCell_other _ _ _ _ (by first | exact addr_ne hN6 | exact addr_ne hN7 | exact addr_ne hNb | exact (addr_ne hN6).symm | exact (addr_ne hN7).symm | exact (addr_ne hNb).symm)).trans vt5)⟩)) (first | (go_at_call 40; refine (CB.out _ (below_drewN (Below.refl _ _) 1)).mono ?_; rintro e w6 ⟨d, he, hd, hb6'⟩; obtain ⟨u0, u1, u2, u3, u4, u5, rfl⟩ := six hd.1; have he' : e = .returned (.agg #[.slice u0.1 u0.2.1 u0.2.2, .slice u1.1 u1.2.1 u1.2.2, .slice u2.1 u2.2.1 u2.2.2, .slice u3.1 u3.2.1 u3.2.2, .slice u4.1 u4.2.1 u4.2.2, .slice u5.1 u5.2.1 u5.2.2]) := he; subst he'; have hb6 : Below w5.heap.size w5 w6 := (below_drewN (Below.refl _ _) 1).trans hb6'; have ya6 := (hb6.cell (p := ⟨g6, 1, none⟩) hg6).trans xa6; have yx0 := (hb6.cell (p := ⟨b, o, none⟩) hb5).trans xx0; have yx1 := (hb6.cell (p := ⟨b, o + 1, none⟩) hb5).trans xx1; have yt0 := (hb6.cell (p := ⟨g7, 0, none⟩) hg7).trans xt0; have yt1 := (hb6.cell (p := ⟨g7, 1, none⟩) hg7).trans xt1; have yt2 := (hb6.cell (p := ⟨g7, 2, none⟩) hg7).trans xt2; have yt3 := (hb6.cell (p := ⟨g7, 3, none⟩) hg7).trans xt3; have yt4 := (hb6.cell (p := ⟨g7, 4, none⟩) hg7).trans xt4; have yt5 := (hb6.cell (p := ⟨g7, 5, none⟩) hg7).trans xt5;  have HDU : Hid (DgAt w6 [u0, u1, u2, u3, u4, u5] (digitH P)) := hd; clear he hd hb6') | (go_at_call 37; refine (CM.out _ _ _ _ _ _ _ hb6 HDU.out).mono ?_; rintro e w7 ⟨d, he, hd, hb7'⟩; obtain ⟨e0, e1, e2, e3, e4, e5, rfl⟩ := six hd.1; have he' : e = .returned (.agg #[.slice e0.1 e0.2.1 e0.2.2, .slice e1.1 e1.2.1 e1.2.2, .slice e2.1 e2.2.1 e2.2.2, .slice e3.1 e3.2.1 e3.2.2, .slice e4.1 e4.2.1 e4.2.2, .slice e5.1 e5.2.1 e5.2.2]) := he; subst he'; have hb7 : Below w5.heap.size w5 w7 := hb6.trans (hb7'.mono hb6.size); have za6 := (hb7.cell (p := ⟨g6, 1, none⟩) hg6).trans xa6; have zx0 := (hb7.cell (p := ⟨b, o, none⟩) hb5).trans xx0; have zx1 := (hb7.cell (p := ⟨b, o + 1, none⟩) hb5).trans xx1; have zt0 := (hb7.cell (p := ⟨g7, 0, none⟩) hg7).trans xt0; have zt1 := (hb7.cell (p := ⟨g7, 1, none⟩) hg7).trans xt1; have zt2 := (hb7.cell (p := ⟨g7, 2, none⟩) hg7).trans xt2; have zt3 := (hb7.cell (p := ⟨g7, 3, none⟩) hg7).trans xt3; have zt4 := (hb7.cell (p := ⟨g7, 4, none⟩) hg7).trans xt4; have zt5 := (hb7.cell (p := ⟨g7, 5, none⟩) hg7).trans xt5;  have HDV : Hid (DgAt w7 [e0, e1, e2, e3, e4, e5] (outAt (digitH E) (digitH P))) := hd; clear he hd hb7') | (go_at_call 36; refine (CW.out _ _ _ _ _ _ _ hb7.size HDV.out).mono ?_; rintro e w8 ⟨u, rfl, hu, hb8'⟩; have hb8 : Below w5.heap.size w5 w8 := hb7.trans (hb8'.mono hb7.size); have va6 := (hb8.cell (p := ⟨g6, 1, none⟩) hg6).trans xa6; have vx0 := (hb8.cell (p := ⟨b, o, none⟩) hb5).trans xx0; have vx1 := (hb8.cell (p := ⟨b, o + 1, none⟩) hb5).trans xx1; have vt0 := (hb8.cell (p := ⟨g7, 0, none⟩) hg7).trans xt0; have vt1 := (hb8.cell (p := ⟨g7, 1, none⟩) hg7).trans xt1; have vt2 := (hb8.cell (p := ⟨g7, 2, none⟩) hg7).trans xt2; have vt3 := (hb8.cell (p := ⟨g7, 3, none⟩) hg7).trans xt3; have vt4 := (hb8.cell (p := ⟨g7, 4, none⟩) hg7).trans xt4; have vt5 := (hb8.cell (p := ⟨g7, 5, none⟩) hg7).trans xt5;  have HU : Hid (NewH w7.heap.size w8 u (popH h)) := hu; have m0 := (hb8.cell (p := ⟨w.heap.size, 0, none⟩) hN5).trans n0'; have m1 := (hb8.cell (p := ⟨w.heap.size, 1, none⟩) hN5).trans n1'; have q0 := (World.frozen?_of_block (a := ⟨w.heap.size, 0, none⟩) (hb8.block _ hN5)).trans f0'; have q1 := (World.frozen?_of_block (a := ⟨w.heap.size, 1, none⟩) (hb8.block _ hN5)).trans f1'; have hw57 := hb7.size; have hN8 := Nat.lt_of_lt_of_le hN5 hb8.size; clear hu hb8'))
  all_goals
    go_wp2
    refine bodyPost_ret (by simp [results, Tryd.results17, go_sem, m0, m1]; try rfl) rfl ?_
    refine ⟨_, rfl, ?_, ?_⟩
    · exact (HU.out.kept (gb_set (World.grownBy.refl _ _) _ _ _ _) (fun f e => by have := Option.some.inj e; omega)).weak (by omega)
    · have hb9 := HBW5.out.trans (hb8.mono HBW5.out.size)
      exact (hb9.setCell (p := ⟨w.heap.size, 0, none⟩) (Nat.le_refl _) _).setCell (p := ⟨w.heap.size, 1, none⟩) (Nat.le_refl _) _
/-- What is wrong with a heap that is to be popped. -/
def popE (h : List (Int × List (Int × Int))) : Nat := if binoE h = 0 then (if h = [] then 5 else 0) else binoE h
theorem dPop_bad (v : Value) (h : List (Int × List (Int × Int))) (k : Nat) (w : World) (H : HpAt w v h) (f : FitH h) (hk : popE h = k) (h0 : k ≠ 0) :
    Calls Tryd.prog 17 #[v] w fun e w' => e = .returned (.tuple #[.agg #[.int .i64 0, .int .i64 0], .slice none 0 0, .iface 56 (.int .i64 k)]) ∧ Below w.heap.size w w' := by
  obtain ⟨p, c, rfl⟩ := H.form
  have k1 := fun w1 (hb : Below w.heap.size w w1) => dcheck_any _ h w1 (H.below hb) f.1 f.2
  unfold popE at hk
  by_cases e1 : binoE h = 0
  · rw [if_pos e1] at hk
    rw [e1, errV_zero] at k1
    by_cases e2 : h = []
    · rw [if_pos e2] at hk
      subst hk
      subst e2
      exact dPop_B p c w k1
    · rw [if_neg e2] at hk; exact absurd hk.symm h0
  · rw [if_neg e1] at hk
    rw [errV_pos e1, hk] at k1
    exact dPop_A p _ c k w k1
theorem dPop_good (v : Value) (g : List TrL) (w : World) (H : HpAt w v (zH g)) (G : OkH g) (hn : g ≠ []) :
    Calls Tryd.prog 17 #[v] w fun e w' => ∃ (x : Int × Int) (l : List (Int × Int)) (r : Nat) (u : Value), e = .returned (.tuple #[.agg #[.int .i64 x.1, .int .i64 x.2], u, .nilIface]) ∧ g[atTo g g.length]? = some (r, x :: l) ∧ NewH w.heap.size w' u (popH g) ∧ Below w.heap.size w w' := by
  obtain ⟨p, c, hv⟩ := H.form
  rw [zH_len] at hv
  subst hv
  have k1 := fun w1 (hb : Below w.heap.size w w1) => dcheck_any _ _ w1 (H.below hb) G.fit.1 G.fit.2
  rw [binoE_ok G, errV_zero] at k1
  obtain ⟨r, ⟨x0, x1⟩, l, e, _⟩ := G.pop hn
  have hm := List.mem_of_getElem? e
  have hpos : 0 < g.length := List.length_pos_iff.2 hn
  refine (dPop_C p g.length c x0 x1 r _ l g w hpos (G.rank _ hm) (by simp) rfl G e rfl H k1 fun w1 hb => ?_).mono fun e' w' ⟨u, a1, a2, a3⟩ => ⟨(x0, x1), l, r, u, a1, e, a2, a3⟩
  refine (least_any _ g w w1 H hb G hn).mono fun e' w' ⟨r', l', q, c', a1, a2, a3, a4⟩ => ?_
  rw [e] at a2
  simp only [Option.some.injEq, Prod.mk.injEq] at a2
  obtain ⟨rfl, rfl⟩ := a2
  exact ⟨q, c', a1, a3, a4⟩
/-- What Pop tells: the least one, and what is left. -/
theorem dPop_ok (v : Value) (g : List TrL) (w : World) (H : HpAt w v (zH g)) (G : OkH g) (hn : g ≠ []) : ∃ x : Int × Int, OkH (popH g) ∧ (x :: itemsH (popH g)).Perm (itemsH g) ∧ (∀ y ∈ itemsH g, x.1 ≤ y.1) ∧
    Calls Tryd.prog 17 #[v] w fun e w' => ∃ u : Value, e = .returned (.tuple #[.agg #[.int .i64 x.1, .int .i64 x.2], u, .nilIface]) ∧ NewH w.heap.size w' u (popH g) ∧ Below w.heap.size w w' := by
  obtain ⟨r, x, l, e, _, _, _, o1, o2, o3⟩ := G.pop hn
  refine ⟨x, o1, o2, o3, (dPop_good v g w H G hn).mono fun e' w' ⟨x', l', r', u, a1, a2, a3, a4⟩ => ?_⟩
  rw [e] at a2
  simp only [Option.some.injEq, Prod.mk.injEq, List.cons.injEq] at a2
  obtain ⟨_, rfl, _⟩ := a2
  exact ⟨u, a1, a3, a4⟩
#print axioms dPop_ok
#print axioms dPop_bad
#print axioms dPop_good
end Go.Proofs.YtmkjalpgeljnkaaDoor

/-
  What the statements ask with: are two lists of items the same, or the same but for their order?
-/
namespace Go.Proofs.YtmkjalpgeljnkaaDoor
open Go.RowKit Go.Sort Go.Proofs

theorem ret_bb {a b : Bool} (h : a = b) : Ending.returned (.bool b) = .returned (.bool a) := by rw [h]

theorem equalIn_item (x0 x1 y0 y1 : Int) (w : World) :
    Sem.run Tryd.prog (Op.equalIn 10000 24 (.agg #[.int .i64 x0, .int .i64 x1]) (.agg #[.int .i64 y0, .int .i64 y1])) w = .ok (x0 == y0 && x1 == y1) w := by
  have u3 := Tryd.underlying3
  have a3 := Tryd.isAgg3
  have z3 := Tryd.sizeOf3
  have hS : Tryd.prog.underlying 24 = some (.struct (Tryd.prog.fieldsOf 24)) := by kernel_rfl
  have hp : Tryd.prog.stoodInHeld 24 = false := by kernel_rfl
  rw [show (10000 : Nat) = 9999 + 1 from rfl, run_equalIn_struct w 9999 24 _ _ hS hp]
  simp only [Program.fieldsOf, Tryd.underlying24]
  go_simp
  by_cases h1 : x0 = y0 <;> by_cases h2 : x1 = y1 <;> simp [h1, h2]
theorem eql_item (x0 x1 y0 y1 : Int) (w : World) :
    Sem.run Tryd.prog (binOp .eql 24 (.agg #[.int .i64 x0, .int .i64 x1]) (.agg #[.int .i64 y0, .int .i64 y1])) w = .ok (.bool (x0 == y0 && x1 == y1)) w := by
  rw [run_eql_struct, equalIn_item]; rfl
theorem neq_item (x0 x1 y0 y1 : Int) (w : World) :
    Sem.run Tryd.prog (binOp .neq 24 (.agg #[.int .i64 x0, .int .i64 x1]) (.agg #[.int .i64 y0, .int .i64 y1])) w = .ok (.bool (!(x0 == y0 && x1 == y1))) w := by
  rw [run_neq_struct, equalIn_item]; rfl
theorem guard_item (op : BinOp) (a b : Operand) (xs ys : Array Value) (w : World) : Sem.run Tryd.prog (eqGuard op 24 a b (.agg xs) (.agg ys)) w = .ok () w :=
  run_eqGuard_agg w op 24 a b xs ys (by kernel_rfl)

theorem items_ext {xs ys : Array (Int × Int)} (hs : xs.size = ys.size) (h : ∀ j, j < xs.size → xs[j]! = ys[j]!) : xs = ys :=
  Array.ext hs fun t h1 h2 => by have := h t h1; rwa [getElem!_pos xs t h1, getElem!_pos ys t h2] at this

theorem items_unlike (p1 p2 : Option Addr) (n m c1 c2 : Nat) (w : World) (h : n ≠ m) :
    Calls Tryd.prog 38 #[.slice p1 n c1, .slice p2 m c2] w fun e w' => e = .returned (.bool false) ∧ ∃ q, w' = w.drewN q := by
  have hz : ((n : Int) == (m : Int)) = false := beq_eq_false_iff_ne.2 (by omega)
  go_enter Tryd.func38, Tryd.ntmps38
  go_wp2
  go_ret
  exact ⟨rfl, 0, rfl⟩
theorem items_none (p1 p2 : Option Addr) (c1 c2 : Nat) (w : World) :
    Calls Tryd.prog 38 #[.slice p1 0 c1, .slice p2 0 c2] w fun e w' => e = .returned (.bool true) ∧ ∃ q, w' = w.drewN q := by
  go_enter Tryd.func38, Tryd.ntmps38
  go_wp2
  go_loop [5] (fun i => i = .int .i64 0) (fun _ => 0)
  case atStart => rfl
  case round =>
    subst hrel
    go_wp2
    go_ret
    exact ⟨rfl, 0, rfl⟩

set_option maxHeartbeats 2000000 in
theorem items_some (b1 o1 c1 b2 o2 c2 n : Nat) (xs ys : Array (Int × Int)) (w : World) (hx : RdAt w b1 o1 xs) (hy : RdAt w b2 o2 ys) (hn : Hid (xs.size = n)) (hm : Hid (ys.size = n)) (hsz : n ≤ 4611686018427387904) :
    Calls Tryd.prog 38 #[.slice (some ⟨b1, o1, none⟩) n c1, .slice (some ⟨b2, o2, none⟩) n c2] w fun e w' => e = .returned (.bool (decide (xs = ys))) ∧ ∃ q, w' = w.drewN q := by
  have HX : Aside _ := hx
  have HY : Aside _ := hy
  clear hx hy
  have k1 := eql_item
  have k2 := neq_item
  have k3 := equalIn_item
  have k4 := guard_item
  go_enter Tryd.func38, Tryd.ntmps38
  go_wp2
  go_loopg [5] n (fun g vi wr => ∃ i q : Nat, vi = .int .i64 i ∧ i + g = n ∧ wr = w.drewN q ∧ Aside (∀ j, j < i → xs[j]! = ys[j]!))
  case atStart => exact ⟨0, 0, rfl, by omega, rfl, (show Aside _ from fun j hj => by omega)⟩
  case round =>
    obtain ⟨i, q, rfl, hg, rfl, HO⟩ := hrel
    by_cases hlt : i < n
    · have hlz : (i : Int) < (n : Int) := by omega
      obtain ⟨x0, x1, hx⟩ : ∃ x y, xs[i]! = (x, y) := ⟨_, _, rfl⟩
      obtain ⟨y0, y1, hy⟩ : ∃ x y, ys[i]! = (x, y) := ⟨_, _, rfl⟩
      have cx := HX.out.2 i (by rw [hn.out]; exact hlt)
      have cy := HY.out.2 i (by rw [hm.out]; exact hlt)
      rw [hx] at cx
      rw [hy] at cy
      obtain ⟨cx0, cx1⟩ := cx
      obtain ⟨cy0, cy1⟩ := cy
      have HXX : Hid _ := hx
      have HYY : Hid _ := hy
      clear hx hy
      obtain ⟨r, hr⟩ : ∃ r, (x0 == y0 && x1 == y1) = r := ⟨_, rfl⟩
      have HR : Hid ((x0 == y0 && x1 == y1) = r) := hr
      have k2' := fun w => neq_item x0 x1 y0 y1 w
      have k3' := fun w => equalIn_item x0 x1 y0 y1 w
      rw [hr] at k2' k3'
      clear hr k1 k2 k3
      cases r
      · have ef : decide (xs = ys) = false := decide_eq_false fun e => by
          have h1 := HXX.out
          have h2 := HYY.out
          rw [e, h2] at h1
          cases h1
          have := HR.out
          simp at this
        have EF : Hid _ := ef
        clear ef
        go_wp2_with fail
        go_quiet (fail)
        go_wp2
        go_ret
        exact ⟨ret_bb EF.out, q + nq, by first | rfl | rw [World.drewN_drewN]⟩
      · go_wp2_with fail
        go_quiet (fail)
        go_wp2
        go_roundg (n - (i + 1))
        case measure => omega
        case rel =>
          refine ⟨i + 1, q + nq, by go_num, by omega, by first | rfl | rw [World.drewN_drewN], (show Aside _ from fun j hj => ?_)⟩
          rcases Nat.lt_or_ge j i with c | c
          · exact HO.out j c
          · obtain rfl : j = i := by omega
            rw [HXX.out, HYY.out]
            have := HR.out
            simp at this
            rw [this.1, this.2]
    · have hlz : ¬ (i : Int) < (n : Int) := by omega
      have ef : decide (xs = ys) = true := decide_eq_true (items_ext (hn.out.trans hm.out.symm) fun j hj => HO.out j (by rw [hn.out] at hj; omega))
      have EF : Hid _ := ef
      clear ef
      go_wp2
      go_ret
      exact ⟨ret_bb EF.out, q, rfl⟩

theorem items_any (u v : Value) (xs ys : Array (Int × Int)) (w : World) (hx : Sl w u xs) (hy : Sl w v ys) (hn : xs.size ≤ 4611686018427387904) :
    Calls Tryd.prog 38 #[u, v] w fun e w' => e = .returned (.bool (decide (xs = ys))) ∧ ∃ q, w' = w.drewN q := by
  obtain ⟨p1, c1, rfl, _, hx⟩ := hx
  obtain ⟨p2, c2, rfl, _, hy⟩ := hy
  by_cases hs : xs.size = ys.size
  · by_cases h0 : xs.size = 0
    · rw [← hs, h0, decide_eq_true (items_ext hs fun j hj => by omega)]
      exact items_none p1 p2 c1 c2 w
    · rcases hx with hx | ⟨b1, o1, rfl, hx⟩
      · exact absurd hx h0
      rcases hy with hy | ⟨b2, o2, rfl, hy⟩
      · exact absurd (hs.trans hy) h0
      rw [← hs]
      exact items_some b1 o1 c1 b2 o2 c2 xs.size xs ys w hx hy rfl hs.symm hn
  · rw [decide_eq_false fun e => hs (by rw [e])]
    exact items_unlike p1 p2 _ _ c1 c2 w hs
end Go.Proofs.YtmkjalpgeljnkaaDoor

/-
  errors.As at a target that is an Errno, plain.Told and the statements' own Error: which number an error tells.
-/
namespace Go.Proofs.YtmkjalpgeljnkaaDoor
open Go.RowKit Go.Extern.Stop Go.Stop Go.Extern

/-! ### Closed facts on the entries for internal/reflectlite, at this program's numbers -/
theorem as_valueOfP (t : Addr) (w : World) : (ReflectliteValue.unpack (.iface 73 (.pointer (some t)))).run Tryd.prog w = .ok (.agg #[.pointer (some ⟨1, 73, none⟩), .pointer (some ⟨w.heap.size, 0, none⟩), .int .u64 150]) (w.alloc (.cells #[.pointer (some t)] 73)) := by kernel_rfl
theorem as_typeP (a : Addr) (w : World) : (ReflectliteValue.methodAny (ReflectliteValue.valueError "reflectlite.Value.Type" 0) (fun t _ _ _ => ReflectliteType.toType t) #[.agg #[.pointer (some ⟨1, 73, none⟩), .pointer (some a), .int .u64 150]]).run Tryd.prog w = .ok (.iface 95 (.agg #[.pointer (some ⟨1, 73, none⟩)])) w := by kernel_rfl
theorem as_methodKind (h : Value) (w : World) : (Go.method 239 95 (.agg #[h]) "Kind").run Tryd.prog w = .ok (77, h) w := by kernel_rfl
theorem as_kindP (w : World) : ((ReflectliteType.abiMethod fun t => (fun a : Nat => Value.int IntKind.u8 (a : Int)) <$> Rtype.kind t) #[.pointer (some ⟨1, 73, none⟩)]).run Tryd.prog w = .ok (.int .u8 22) w := by kernel_rfl
theorem as_kindE (w : World) : ((ReflectliteType.abiMethod fun t => (fun a : Nat => Value.int IntKind.u8 (a : Int)) <$> Rtype.kind t) #[.pointer (some ⟨1, 56, none⟩)]).run Tryd.prog w = .ok (.int .u8 2) w := by kernel_rfl
theorem as_rlm (z : Sem Value) (f : TypeId → Addr → Nat → Nat → Sem Value) (v : Value) :
    ReflectliteValue.method z f #[v] = (do match ← ReflectliteValue.parts v with | none => z | some (t, a, fl) => f t a fl (fl % 32)) := rfl
theorem as_partsP (a : Addr) (w : World) : (ReflectliteValue.parts (.agg #[.pointer (some ⟨1, 73, none⟩), .pointer (some a), .int .u64 150])).run Tryd.prog w = .ok (some (73, a, 150)) w := by kernel_rfl
theorem as_isNilP (a p : Addr) (W : World) (ha : W.cell? a = some (.pointer (some p))) :
    (ReflectliteValue.method (ReflectliteValue.valueError "reflectlite.Value.IsNil" 0) ReflectliteValue.isNil #[.agg #[.pointer (some ⟨1, 73, none⟩), .pointer (some a), .int .u64 150]]).run Tryd.prog W = .ok (.bool false) W := by
  rw [as_rlm]
  simp only [Sem.run_bind, as_partsP, Result.andThen]
  simp [ReflectliteValue.isNil, loadVar, isAgg, underlying, Tryd.underlying73, ha, Result.andThen]
theorem as_methodElem (h : Value) (w : World) : (Go.method 239 95 (.agg #[h]) "Elem").run Tryd.prog w = .ok (87, .agg #[h]) w := by kernel_rfl
theorem as_methodImplements (h : Value) (w : World) : (Go.method 239 95 (.agg #[h]) "Implements").run Tryd.prog w = .ok (88, .agg #[h]) w := by kernel_rfl
theorem as_methodAssignableTo (h : Value) (w : World) : (Go.method 239 95 (.agg #[h]) "AssignableTo").run Tryd.prog w = .ok (85, .agg #[h]) w := by kernel_rfl
theorem as_elemT (w : World) : (ReflectliteType.method ReflectliteType.elem #[.agg #[.pointer (some ⟨1, 73, none⟩)]]).run Tryd.prog w = .ok (.iface 95 (.agg #[.pointer (some ⟨1, 56, none⟩)])) w := by kernel_rfl
theorem as_implements (w : World) : (ReflectliteType.relation "Implements" ReflectliteType.implements_ #[.agg #[.pointer (some ⟨1, 56, none⟩)], .iface 95 (.agg #[.pointer (some ⟨1, 28, none⟩)])]).run Tryd.prog w = .ok (.bool true) w := by kernel_rfl
theorem as_typeOf (n : Int) (w : World) : (ReflectliteType.typeOf #[.iface 56 (.int .i64 n)]).run Tryd.prog w = .ok (.iface 95 (.agg #[.pointer (some ⟨1, 56, none⟩)])) w := by kernel_rfl
theorem as_assignable (w : World) : (ReflectliteType.relation "AssignableTo" ReflectliteType.assignableTo #[.agg #[.pointer (some ⟨1, 56, none⟩)], .iface 95 (.agg #[.pointer (some ⟨1, 56, none⟩)])]).run Tryd.prog w = .ok (.bool true) w := by kernel_rfl
theorem as_valueOfE (n : Int) (w : World) : (ReflectliteValue.unpack (.iface 56 (.int .i64 n))).run Tryd.prog w = .ok (.agg #[.pointer (some ⟨1, 56, none⟩), .pointer (some ⟨w.heap.size, 0, none⟩), .int .u64 130]) (w.alloc (.cells #[.int .i64 n] 56)) := by kernel_rfl
theorem as_elemOf (w : World) : (Rtype.elem? 73).run Tryd.prog w = .ok (some 56) w := by kernel_rfl
theorem as_mk (p : Addr) (w : World) : (ReflectliteValue.mk 56 p ReflectliteValue.flagAddr).run Tryd.prog w = .ok (.agg #[.pointer (some ⟨1, 56, none⟩), .pointer (some p), .int .u64 386]) w := by kernel_rfl
theorem as_elemV (a p : Addr) (W : World) (ha : W.cell? a = some (.pointer (some p))) :
    (ReflectliteValue.method (ReflectliteValue.valueError "reflectlite.Value.Elem" 0) ReflectliteValue.elem #[.agg #[.pointer (some ⟨1, 73, none⟩), .pointer (some a), .int .u64 150]]).run Tryd.prog W = .ok (.agg #[.pointer (some ⟨1, 56, none⟩), .pointer (some p), .int .u64 386]) W := by
  rw [as_rlm]
  simp only [Sem.run_bind, as_partsP, Result.andThen]
  simp [ReflectliteValue.elem, loadVar, isAgg, underlying, Tryd.underlying73, ha, Result.andThen, as_elemOf, as_mk]
theorem as_partsA (a : Addr) (w : World) : (ReflectliteValue.parts (.agg #[.pointer (some ⟨1, 56, none⟩), .pointer (some a), .int .u64 386])).run Tryd.prog w = .ok (some (56, a, 386)) w := by kernel_rfl
theorem as_partsB (a : Addr) (w : World) : (ReflectliteValue.parts (.agg #[.pointer (some ⟨1, 56, none⟩), .pointer (some a), .int .u64 130])).run Tryd.prog w = .ok (some (56, a, 130)) w := by kernel_rfl
theorem as_direct (w : World) : (Rtype.directlyAssignable 56 56).run Tryd.prog w = .ok true w := by kernel_rfl
theorem as_m3 {M : Array Value → Sort _} (v x : Value) (h1 : (v x : Value) → M #[v, x]) (h2 : (y : Array Value) → M y) : ReflectliteValue.set.match_3 M #[v, x] h1 h2 = h1 v x := rfl
theorem as_set (ta b : Addr) (n : Int) (old : Value) (W : World) (hb : W.cell? b = some (.int .i64 n)) (ht : W.cell? ta = some old) (hf : W.frozen? ta = false) :
    (ReflectliteValue.set #[.agg #[.pointer (some ⟨1, 56, none⟩), .pointer (some ta), .int .u64 386], .agg #[.pointer (some ⟨1, 56, none⟩), .pointer (some b), .int .u64 130]]).run Tryd.prog W = .ok (.tuple #[]) (W.setCell ta (.int .i64 n)) := by
  delta ReflectliteValue.set
  rw [as_m3]
  simp only [Sem.run_bind, as_partsA, as_partsB, Result.andThen]
  simp [ReflectliteValue.flagAddr, loadVar, isAgg, underlying, Tryd.underlying56, hb, Result.andThen, as_direct, storeVar, Value.cells, storeCells, Addr.add]
  rw [run_store Tryd.prog W ta _ _ (by rfl)]
  simp [ht, hf]

set_option maxHeartbeats 4000000 in
theorem as_hit (n : Int) (t : Addr) (old : Value) (w : World) (hg : w.cell? ⟨0, 0, none⟩ = some (.iface 95 (.agg #[.pointer (some ⟨1, 28, none⟩)]))) (ht0 : w.cell? t = some old) (hf0 : w.frozen? t = false) :
    Calls Tryd.prog 44 #[.iface 56 (.int .i64 n), .iface 73 (.pointer (some t))] w fun ev w' => ev = .returned (.bool true) ∧ w' = ((((w.alloc (.cells #[.pointer (some t)] 73)).alloc (.cells #[.pointer (some ⟨1, 73, none⟩), .pointer (some ⟨w.heap.size, 0, none⟩), .int .u64 150] 82)).alloc (.cells #[.pointer (some ⟨1, 73, none⟩), .pointer (some ⟨w.heap.size, 0, none⟩), .int .u64 150] 82)).alloc (.cells #[.int .i64 n] 56)).setCell t (.int .i64 n) := by
  have h6 := @run_callFunc_extern Tryd.prog 50 _ (fun args => ReflectliteValue.unpack (args.getD 0 (.tuple #[]))) Tryd.func50 (by kernel_rfl) (by kernel_rfl) (by kernel_rfl) (by kernel_rfl)
  have h7 := @run_callFunc_extern Tryd.prog 51 _ (ReflectliteValue.methodAny (ReflectliteValue.valueError "reflectlite.Value.Type" 0) (fun t _ _ _ => ReflectliteType.toType t)) Tryd.func51 (by kernel_rfl) (by kernel_rfl) (by kernel_rfl) (by kernel_rfl)
  have h8 := @run_callFunc_extern Tryd.prog 52 _ (ReflectliteValue.method (ReflectliteValue.valueError "reflectlite.Value.IsNil" 0) ReflectliteValue.isNil) Tryd.func52 (by kernel_rfl) (by kernel_rfl) (by kernel_rfl) (by kernel_rfl)
  have h27 := @run_callFunc_extern Tryd.prog 77 _ (ReflectliteType.abiMethod fun t => do pure (.int .u8 (← Rtype.kind t))) Tryd.func77 (by kernel_rfl) (by kernel_rfl) (by kernel_rfl) (by kernel_rfl)
  have h37 := @run_callFunc_extern Tryd.prog 87 _ (ReflectliteType.method ReflectliteType.elem) Tryd.func87 (by kernel_rfl) (by kernel_rfl) (by kernel_rfl) (by kernel_rfl)
  have h38 := @run_callFunc_extern Tryd.prog 88 _ (ReflectliteType.relation "Implements" ReflectliteType.implements_) Tryd.func88 (by kernel_rfl) (by kernel_rfl) (by kernel_rfl) (by kernel_rfl)
  have h10 := @run_callFunc_extern Tryd.prog 58 _ ReflectliteType.typeOf Tryd.func58 (by kernel_rfl) (by kernel_rfl) (by kernel_rfl) (by kernel_rfl)
  have h35 := @run_callFunc_extern Tryd.prog 85 _ (ReflectliteType.relation "AssignableTo" ReflectliteType.assignableTo) Tryd.func85 (by kernel_rfl) (by kernel_rfl) (by kernel_rfl) (by kernel_rfl)
  have h11 := @run_callFunc_extern Tryd.prog 59 _ (ReflectliteValue.method (ReflectliteValue.valueError "reflectlite.Value.Elem" 0) ReflectliteValue.elem) Tryd.func59 (by kernel_rfl) (by kernel_rfl) (by kernel_rfl) (by kernel_rfl)
  have h12 := @run_callFunc_extern Tryd.prog 60 _ ReflectliteValue.set Tryd.func60 (by kernel_rfl) (by kernel_rfl) (by kernel_rfl) (by kernel_rfl)
  have tO := as_typeOf
  have mA := as_methodAssignableTo
  have a25 := as_assignable
  have v25 := as_valueOfE
  have f6 := as_valueOfP
  have f7 := as_typeP
  have mK := as_methodKind
  have mE := as_methodElem
  have mI := as_methodImplements
  have k27 := as_kindP
  have k25 := as_kindE
  have e27 := as_elemT
  have i25 := as_implements
  have n8 := as_isNilP ⟨w.heap.size, 0, none⟩ t ((w.alloc (.cells #[.pointer (some t)] 73)).alloc (.cells #[.pointer (some ⟨1, 73, none⟩), .pointer (some ⟨w.heap.size, 0, none⟩), .int .u64 150] 82)) (by simp)
  have hlt : 0 < w.heap.size := by
    rcases Nat.eq_zero_or_pos w.heap.size with h0 | h
    · simp [World.cell?, h0] at hg
    · exact h
  have hg2 : ((w.alloc (.cells #[.pointer (some t)] 73)).alloc (.cells #[.pointer (some ⟨1, 73, none⟩), .pointer (some ⟨w.heap.size, 0, none⟩), .int .u64 150] 82)).cell? ⟨0, 0, none⟩ = some (.iface 95 (.agg #[.pointer (some ⟨1, 28, none⟩)])) := by
    rw [World.cell?_alloc_lt _ _ ⟨0, 0, none⟩ (by simp), World.cell?_alloc_lt _ _ ⟨0, 0, none⟩ hlt]; exact hg
  have htl : t.block < w.heap.size := by
    rcases Nat.lt_or_ge t.block w.heap.size with h | h
    · exact h
    · simp [World.cell?, Array.getElem?_eq_none h] at ht0
  have el := as_elemV ⟨w.heap.size, 0, none⟩ t (((w.alloc (.cells #[.pointer (some t)] 73)).alloc (.cells #[.pointer (some ⟨1, 73, none⟩), .pointer (some ⟨w.heap.size, 0, none⟩), .int .u64 150] 82)).alloc (.cells #[.pointer (some ⟨1, 73, none⟩), .pointer (some ⟨w.heap.size, 0, none⟩), .int .u64 150] 82)) (by rw [World.cell?_alloc_lt _ _ ⟨w.heap.size, 0, none⟩ (by simp; omega)]; simp)
  have st := as_set t ⟨w.heap.size + 1 + 1 + 1, 0, none⟩ n old ((((w.alloc (.cells #[.pointer (some t)] 73)).alloc (.cells #[.pointer (some ⟨1, 73, none⟩), .pointer (some ⟨w.heap.size, 0, none⟩), .int .u64 150] 82)).alloc (.cells #[.pointer (some ⟨1, 73, none⟩), .pointer (some ⟨w.heap.size, 0, none⟩), .int .u64 150] 82)).alloc (.cells #[.int .i64 n] 56))
    (by rw [World.cell?_alloc_at _ _ _ _ (by simp)]; rfl)
    (by rw [World.cell?_alloc_lt _ _ t (by simp; omega), World.cell?_alloc_lt _ _ t (by simp; omega), World.cell?_alloc_lt _ _ t (by simp; omega), World.cell?_alloc_lt _ _ t htl]; exact ht0)
    (by rw [World.frozen?_alloc_old _ _ t (by simp; omega), World.frozen?_alloc_old _ _ t (by simp; omega), World.frozen?_alloc_old _ _ t (by simp; omega), World.frozen?_alloc_old _ _ t (Nat.ne_of_lt htl)]; exact hf0)
  go_enter Tryd.func44, Tryd.ntmps44
  go_wp2
  refine wp_loop_rounds 1 ?_
  rw [rounds_succ]
  go_wp2
  go_ret
  exact ⟨rfl, rfl⟩
end Go.Proofs.YtmkjalpgeljnkaaDoor

/-
  plain.Told and the statements' own Error: which number an error tells.
-/
namespace Go.Proofs.YtmkjalpgeljnkaaDoor
open Go.RowKit Go.Sort Go.Proofs

/-- The one package-level variable that errors.As reads holds the handle of the type error. -/
def Glob (w : World) : Prop := 0 < w.heap.size ∧ w.cell? ⟨0, 0, none⟩ = some (.iface 95 (.agg #[.pointer (some ⟨1, 28, none⟩)]))
theorem Glob.below {w w' : World} (h : Glob w) (hb : Below w.heap.size w w') : Glob w' :=
  ⟨Nat.lt_of_lt_of_le h.1 hb.size, (hb.cell (p := ⟨0, 0, none⟩) h.1).trans h.2⟩

theorem told_nil (w : World) : Calls Tryd.prog 29 #[.nilIface] w fun e w' => e = .returned (.int .i64 0) ∧ Below w.heap.size w w' := by
  go_enter Tryd.func29, Tryd.ntmps29
  go_wp2
  go_ret
  exact ⟨rfl, Below.refl _ _⟩
set_option maxHeartbeats 2000000 in
theorem told_hit (n : Int) (w : World) (hg : Glob w) : Calls Tryd.prog 29 #[.iface 56 (.int .i64 n)] w fun e w' => e = .returned (.int .i64 n) ∧ Below w.heap.size w w' := by
  have hg1 : (w.alloc (.cells #[.int .i64 0] 56)).cell? ⟨0, 0, none⟩ = some (.iface 95 (.agg #[.pointer (some ⟨1, 28, none⟩)])) := by
    rw [World.cell?_alloc_lt _ _ ⟨0, 0, none⟩ hg.1]; exact hg.2
  have c := as_hit n ⟨w.heap.size, 0, none⟩ (.int .i64 0) (w.alloc (.cells #[.int .i64 0] 56)) hg1 (by simp) (by simp)
  have hz : w.heap.size < (w.alloc (.cells #[.int .i64 0] 56)).heap.size := by simp
  have C : Hid (Calls Tryd.prog 44 #[.iface 56 (.int .i64 n), .iface 73 (.pointer (some ⟨w.heap.size, 0, none⟩))] (w.alloc (.cells #[.int .i64 0] 56)) fun ev w' => ev = .returned (.bool true) ∧ w'.cell? ⟨w.heap.size, 0, none⟩ = some (.int .i64 n) ∧ Below w.heap.size w w') :=
    c.mono fun ev w' ⟨h1, h2⟩ => by
      refine ⟨h1, ?_, ?_⟩
      · rw [h2]
        refine World.cell?_setCell_same' _ _ _ ?_
        rw [World.cell?_alloc_lt _ _ ⟨w.heap.size, 0, none⟩ (by simp; omega), World.cell?_alloc_lt _ _ ⟨w.heap.size, 0, none⟩ (by simp; omega), World.cell?_alloc_lt _ _ ⟨w.heap.size, 0, none⟩ (by simp; omega), World.cell?_alloc_lt _ _ ⟨w.heap.size, 0, none⟩ hz]
        simp
      · rw [h2]
        exact ((((((Below.refl w.heap.size w).alloc (Nat.le_refl _) _).alloc (by simp) _).alloc (by simp; omega) _).alloc (by simp; omega) _).alloc (by simp; omega) _).setCell (p := ⟨w.heap.size, 0, none⟩) (Nat.le_refl _) _
  clear c hg1 hg hz
  go_enter Tryd.func29, Tryd.ntmps29
  go_wp2_with fail
  refine C.out.mono ?_
  rintro e w1 ⟨rfl, hc, hb⟩
  go_wp2
  go_ret
  exact ⟨rfl, hb⟩

theorem told_any (k : Nat) (w : World) (hg : Glob w) : Calls Tryd.prog 29 #[errV k] w fun e w' => e = .returned (.int .i64 k) ∧ Below w.heap.size w w' := by
  unfold errV
  by_cases h : k = 0
  · rw [if_pos h, h]; exact told_nil w
  · rw [if_neg h]; exact told_hit k w hg
theorem error_any (k m : Nat) (w : World) (hg : Glob w) : Calls Tryd.prog 8 #[errV k, .int .i64 m] w fun e w' => e = .returned (.bool ((k : Int) == (m : Int))) ∧ Below w.heap.size w w' := by
  have c := told_any k w hg
  generalize errV k = v at c ⊢
  go_enter Tryd.func8, Tryd.ntmps8
  go_wp2_with fail
  refine c.mono ?_
  rintro e w1 ⟨rfl, hb⟩
  go_wp2
  go_ret
  exact ⟨rfl, hb⟩
end Go.Proofs.YtmkjalpgeljnkaaDoor

/-
  The law BinoSays, walked: some ways.
-/
namespace Go.Proofs.YtmkjalpgeljnkaaDoor
open Go.RowKit Go.Sort Go.Proofs

/-- The cells of the item that came in. -/
theorem lbox {w w1 : World} {x0 x1 : Int} (hb : Below (w.alloc (.cells #[.int .i64 x0, .int .i64 x1] 24)).heap.size (w.alloc (.cells #[.int .i64 x0, .int .i64 x1] 24)) w1) : w1.cell? ⟨w.heap.size, 0, none⟩ = some (.int .i64 x0) ∧ w1.cell? ⟨w.heap.size, 1, none⟩ = some (.int .i64 x1) ∧ w.heap.size < w1.heap.size ∧ Below w.heap.size w w1 := by
  have hl : w.heap.size < (w.alloc (.cells #[.int .i64 x0, .int .i64 x1] 24)).heap.size := by simp
  refine ⟨(hb.cell (p := ⟨w.heap.size, 0, none⟩) hl).trans (by simp), (hb.cell (p := ⟨w.heap.size, 1, none⟩) hl).trans (by simp), Nat.lt_of_lt_of_le hl hb.size, ((Below.refl _ _).alloc (Nat.le_refl _) _).trans (hb.mono (by simp))⟩
theorem one_sl (w : World) (x0 x1 : Int) : Sl (w.alloc (.cells #[.int .i64 x0, .int .i64 x1] 24)) (.slice (some ⟨w.heap.size, 0, none⟩) 1 1) #[(x0, x1)] := by
  refine ⟨_, 1, rfl, Nat.le_refl _, Or.inr ⟨w.heap.size, 0, rfl, by simp, fun i hi => ?_⟩⟩
  have h0 : i = 0 := by simp at hi; exact hi
  subst h0
  exact ⟨by simp, by simp⟩
theorem alone2_below (w : World) (x0 x1 : Int) : Below w.heap.size w ((w.alloc (.cells #[.int .i64 x0, .int .i64 x1] 24)).alloc (.cells #[.int .i64 0, .slice (some ⟨w.heap.size, 0, none⟩) 1 1] 37)) := ((Below.refl _ _).alloc (Nat.le_refl _) _).alloc (by simp) _
theorem alone2_at (w : World) (x0 x1 : Int) : HpAt ((w.alloc (.cells #[.int .i64 x0, .int .i64 x1] 24)).alloc (.cells #[.int .i64 0, .slice (some ⟨w.heap.size, 0, none⟩) 1 1] 37)) (.slice (some ⟨w.heap.size + 1, 0, none⟩) 1 1) (zH (aloneH (x0, x1))) := by
  have hsz : (w.alloc (.cells #[.int .i64 x0, .int .i64 x1] 24)).heap.size = w.heap.size + 1 := by simp
  refine ⟨[(0, some ⟨w.heap.size, 0, none⟩, 1, 1)], SlE.of_rd ⟨by simp, fun j v hv => ?_⟩ rfl (Nat.le_refl _), rfl, fun i r l e => ?_⟩
  · rw [El.flat_one] at hv
    have := new_tree (w.alloc (.cells #[.int .i64 x0, .int .i64 x1] 24)) (w.heap.size + 1) hsz.symm 0 (some ⟨w.heap.size, 0, none⟩) 1 1 j v hv
    rw [show ((⟨w.heap.size + 1, 0, none⟩ : Addr).add j) = ⟨w.heap.size + 1, 0 + j, none⟩ by unfold Addr.add; split <;> simp_all] at this
    exact this
  · match i, e with
    | 0, e =>
      cases e
      exact ⟨_, rfl, (one_sl w x0 x1).below ((Below.refl _ _).alloc (Nat.le_refl _) _)⟩
    | i + 1, e => simp [zH] at e

set_option maxHeartbeats 32000000 in
set_option maxRecDepth 4000 in
theorem binoSays_1 (p p' : Option Addr) (n cap n' cap' k : Nat) (x0 x1 : Int) (w : World) (hk : ((k : Int) == 0) = false)
    (CT0 : Hid (∀ w1, Below (w.alloc (.cells #[.int .i64 x0, .int .i64 x1] 24)).heap.size (w.alloc (.cells #[.int .i64 x0, .int .i64 x1] 24)) w1 → Calls Tryd.prog 13 #[.slice none 0 0, .slice none 0 0] w1 fun e w' => e = .returned (.bool true) ∧ Below w1.heap.size w1 w'))
    (CRA : Hid (∀ w1, Below (w.alloc (.cells #[.int .i64 x0, .int .i64 x1] 24)).heap.size (w.alloc (.cells #[.int .i64 x0, .int .i64 x1] 24)) w1 → Calls Tryd.prog 7 #[.slice p n cap] w1 fun e w' => e = .returned (.int .i64 k) ∧ Below w1.heap.size w1 w'))
    (CK : Hid (∀ w1, Below (w.alloc (.cells #[.int .i64 x0, .int .i64 x1] 24)).heap.size (w.alloc (.cells #[.int .i64 x0, .int .i64 x1] 24)) w1 → Calls Tryd.prog 9 #[.slice p n cap] w1 fun e w' => e = .returned (.iface 56 (.int .i64 k)) ∧ Below w1.heap.size w1 w'))
    (CEk : Hid (∀ w1, Below (w.alloc (.cells #[.int .i64 x0, .int .i64 x1] 24)).heap.size (w.alloc (.cells #[.int .i64 x0, .int .i64 x1] 24)) w1 → Calls Tryd.prog 8 #[.iface 56 (.int .i64 k), .int .i64 k] w1 fun e w' => e = .returned (.bool true) ∧ Below w1.heap.size w1 w'))
    (CM : Hid (∀ w1, Below (w.alloc (.cells #[.int .i64 x0, .int .i64 x1] 24)).heap.size (w.alloc (.cells #[.int .i64 x0, .int .i64 x1] 24)) w1 → Calls Tryd.prog 12 #[.slice p n cap, .slice p' n' cap'] w1 fun e w' => e = .returned (.tuple #[.slice none 0 0, .iface 56 (.int .i64 k)]) ∧ Below w1.heap.size w1 w'))
    (CP : Hid (∀ w1, Below (w.alloc (.cells #[.int .i64 x0, .int .i64 x1] 24)).heap.size (w.alloc (.cells #[.int .i64 x0, .int .i64 x1] 24)) w1 → Calls Tryd.prog 15 #[.slice p n cap, .agg #[.int .i64 x0, .int .i64 x1]] w1 fun e w' => e = .returned (.tuple #[.slice none 0 0, .iface 56 (.int .i64 k)]) ∧ Below w1.heap.size w1 w'))
    (CO : Hid (∀ w1, Below (w.alloc (.cells #[.int .i64 x0, .int .i64 x1] 24)).heap.size (w.alloc (.cells #[.int .i64 x0, .int .i64 x1] 24)) w1 → Calls Tryd.prog 17 #[.slice p n cap] w1 fun e w' => e = .returned (.tuple #[.agg #[.int .i64 0, .int .i64 0], .slice none 0 0, .iface 56 (.int .i64 k)]) ∧ Below w1.heap.size w1 w')) :
    Calls Tryd.prog 3 #[.slice p n cap, .slice p' n' cap', .agg #[.int .i64 x0, .int .i64 x1]] w fun e w' => e = .returned (.bool true) ∧ Below w.heap.size w w' := by
  have ke : ∀ w, Sem.run Tryd.prog (Op.equalIn 10000 24 (.agg #[.int .i64 0, .int .i64 0]) (.agg #[.int .i64 0, .int .i64 0])) w = .ok true w := fun w => by have := equalIn_item 0 0 0 0 w; simpa using this
  have kq : ∀ w, Sem.run Tryd.prog (binOp .eql 24 (.agg #[.int .i64 0, .int .i64 0]) (.agg #[.int .i64 0, .int .i64 0])) w = .ok (.bool true) w := fun w => by have := eql_item 0 0 0 0 w; simpa using this
  have kg := guard_item
  go_enter Tryd.func3, Tryd.ntmps3
  have hb1 : Below (w.alloc (.cells #[.int .i64 x0, .int .i64 x1] 24)).heap.size (w.alloc (.cells #[.int .i64 x0, .int .i64 x1] 24)) (w.alloc (.cells #[.int .i64 x0, .int .i64 x1] 24)) := Below.refl _ _
  go_wp2_with fail
  refine (CRA.out (w.alloc (.cells #[.int .i64 x0, .int .i64 x1] 24)) hb1).mono ?_
  rintro e w2 ⟨rfl, hb'⟩
  have hb2 := hb1.trans (hb'.mono hb1.size)
  clear hb' hb1
  go_wp2_with fail
  refine (CK.out w2 hb2).mono ?_
  rintro e w3 ⟨rfl, hb'⟩
  have hb3 := hb2.trans (hb'.mono hb2.size)
  clear hb' hb2
  go_wp2_with fail
  refine (CEk.out w3 hb3).mono ?_
  rintro e w4 ⟨rfl, hb'⟩
  have hb4 := hb3.trans (hb'.mono hb3.size)
  clear hb' hb3
  go_wp2_with fail
  refine (CM.out w4 hb4).mono ?_
  rintro e w5 ⟨rfl, hb'⟩
  have hb5 := hb4.trans (hb'.mono hb4.size)
  clear hb' hb4
  go_wp2_with fail
  refine (CEk.out w5 hb5).mono ?_
  rintro e w6 ⟨rfl, hb'⟩
  have hb6 := hb5.trans (hb'.mono hb5.size)
  clear hb' hb5
  go_wp2_with fail
  refine (CT0.out w6 hb6).mono ?_
  rintro e w7 ⟨rfl, hb'⟩
  have hb7 := hb6.trans (hb'.mono hb6.size)
  clear hb' hb6
  obtain ⟨b0, b1, hlt, _⟩ := lbox hb7
  go_wp2_with fail
  refine (CP.out w7 hb7).mono ?_
  rintro e w8 ⟨rfl, hb'⟩
  have hb8 := hb7.trans (hb'.mono hb7.size)
  clear hb' hb7
  clear b0 b1 hlt
  go_wp2_with fail
  refine (CEk.out w8 hb8).mono ?_
  rintro e w9 ⟨rfl, hb'⟩
  have hb9 := hb8.trans (hb'.mono hb8.size)
  clear hb' hb8
  go_wp2_with fail
  refine (CT0.out w9 hb9).mono ?_
  rintro e w10 ⟨rfl, hb'⟩
  have hb10 := hb9.trans (hb'.mono hb9.size)
  clear hb' hb9
  have hba : Below (w.alloc (.cells #[.int .i64 x0, .int .i64 x1] 24)).heap.size (w.alloc (.cells #[.int .i64 x0, .int .i64 x1] 24)) (w10.alloc (.cells #[.int .i64 0, .int .i64 0] 24)) := hb10.alloc hb10.size _
  have hA0 : (w10.alloc (.cells #[.int .i64 0, .int .i64 0] 24)).cell? ⟨w10.heap.size, 0, none⟩ = some (.int .i64 0) := by simp
  have hA1 : (w10.alloc (.cells #[.int .i64 0, .int .i64 0] 24)).cell? ⟨w10.heap.size, 1, none⟩ = some (.int .i64 0) := by simp
  have hAl : w10.heap.size < (w10.alloc (.cells #[.int .i64 0, .int .i64 0] 24)).heap.size := by simp
  go_wp2_with fail
  refine (CO.out _ hba).mono ?_
  rintro e wp ⟨rfl, hb'⟩
  have hbp := hba.trans (hb'.mono hba.size)
  have f0 := (hb'.cell (p := ⟨w10.heap.size, 0, none⟩) hAl).trans hA0
  have f1 := (hb'.cell (p := ⟨w10.heap.size, 1, none⟩) hAl).trans hA1
  have fl : w10.heap.size < wp.heap.size := Nat.lt_of_lt_of_le hAl hb'.size
  clear hb' hA0 hA1 hAl hba
  have hby' : Below wp.heap.size wp (wp.alloc (.cells #[.int .i64 0, .int .i64 0] 24)) := (Below.refl _ _).alloc (Nat.le_refl _) _
  have hby : Below (w.alloc (.cells #[.int .i64 x0, .int .i64 x1] 24)).heap.size (w.alloc (.cells #[.int .i64 x0, .int .i64 x1] 24)) (wp.alloc (.cells #[.int .i64 0, .int .i64 0] 24)) := hbp.alloc hbp.size _
  have e0 := (hby'.cell (p := ⟨w10.heap.size, 0, none⟩) fl).trans f0
  have e1 := (hby'.cell (p := ⟨w10.heap.size, 1, none⟩) fl).trans f1
  have q0 : (wp.alloc (.cells #[.int .i64 0, .int .i64 0] 24)).cell? ⟨wp.heap.size, 0, none⟩ = some (.int .i64 0) := by simp
  have q1 : (wp.alloc (.cells #[.int .i64 0, .int .i64 0] 24)).cell? ⟨wp.heap.size, 1, none⟩ = some (.int .i64 0) := by simp
  have ql : wp.heap.size < (wp.alloc (.cells #[.int .i64 0, .int .i64 0] 24)).heap.size := by simp
  clear f0 f1 hby'
  go_wp2_with fail
  refine (CEk.out _ hby).mono ?_
  rintro e we ⟨rfl, hb'⟩
  have hbe := hby.trans (hb'.mono hby.size)
  have z0 := (hb'.cell (p := ⟨w10.heap.size, 0, none⟩) (Nat.lt_trans fl ql)).trans e0
  have z1 := (hb'.cell (p := ⟨w10.heap.size, 1, none⟩) (Nat.lt_trans fl ql)).trans e1
  have v0 := (hb'.cell (p := ⟨wp.heap.size, 0, none⟩) ql).trans q0
  have v1 := (hb'.cell (p := ⟨wp.heap.size, 1, none⟩) ql).trans q1
  clear hb' e0 e1 q0 q1 hby fl ql
  go_wp2_with fail
  refine (CT0.out we hbe).mono ?_
  rintro e wf ⟨rfl, hb'⟩
  have hbf := hbe.trans (hb'.mono hbe.size)
  clear hb'
  go_wp2
  go_ret
  exact ⟨rfl, (lbox hbf).2.2.2⟩

set_option maxHeartbeats 32000000 in
set_option maxRecDepth 4000 in
theorem binoSays_2 (p p' : Option Addr) (cap n' cap' g : Nat) (x0 x1 : Int) (w : World) (hg : ((g : Int) == 0) = false)
    (CE0 : Hid (∀ w1, Below (w.alloc (.cells #[.int .i64 x0, .int .i64 x1] 24)).heap.size (w.alloc (.cells #[.int .i64 x0, .int .i64 x1] 24)) w1 → Calls Tryd.prog 8 #[.nilIface, .int .i64 0] w1 fun e w' => e = .returned (.bool true) ∧ Below w1.heap.size w1 w'))
    (CT0 : Hid (∀ w1, Below (w.alloc (.cells #[.int .i64 x0, .int .i64 x1] 24)).heap.size (w.alloc (.cells #[.int .i64 x0, .int .i64 x1] 24)) w1 → Calls Tryd.prog 13 #[.slice none 0 0, .slice none 0 0] w1 fun e w' => e = .returned (.bool true) ∧ Below w1.heap.size w1 w'))
    (CRA : Hid (∀ w1, Below (w.alloc (.cells #[.int .i64 x0, .int .i64 x1] 24)).heap.size (w.alloc (.cells #[.int .i64 x0, .int .i64 x1] 24)) w1 → Calls Tryd.prog 7 #[.slice p 0 cap] w1 fun e w' => e = .returned (.int .i64 0) ∧ Below w1.heap.size w1 w'))
    (CK : Hid (∀ w1, Below (w.alloc (.cells #[.int .i64 x0, .int .i64 x1] 24)).heap.size (w.alloc (.cells #[.int .i64 x0, .int .i64 x1] 24)) w1 → Calls Tryd.prog 9 #[.slice p 0 cap] w1 fun e w' => e = .returned (.nilIface) ∧ Below w1.heap.size w1 w'))
    (CRB : Hid (∀ w1, Below (w.alloc (.cells #[.int .i64 x0, .int .i64 x1] 24)).heap.size (w.alloc (.cells #[.int .i64 x0, .int .i64 x1] 24)) w1 → Calls Tryd.prog 7 #[.slice p' n' cap'] w1 fun e w' => e = .returned (.int .i64 g) ∧ Below w1.heap.size w1 w'))
    (CEg : Hid (∀ w1, Below (w.alloc (.cells #[.int .i64 x0, .int .i64 x1] 24)).heap.size (w.alloc (.cells #[.int .i64 x0, .int .i64 x1] 24)) w1 → Calls Tryd.prog 8 #[.iface 56 (.int .i64 g), .int .i64 g] w1 fun e w' => e = .returned (.bool true) ∧ Below w1.heap.size w1 w'))
    (CM : Hid (∀ w1, Below (w.alloc (.cells #[.int .i64 x0, .int .i64 x1] 24)).heap.size (w.alloc (.cells #[.int .i64 x0, .int .i64 x1] 24)) w1 → Calls Tryd.prog 12 #[.slice p 0 cap, .slice p' n' cap'] w1 fun e w' => e = .returned (.tuple #[.slice none 0 0, .iface 56 (.int .i64 g)]) ∧ Below w1.heap.size w1 w'))
    (CRX : Hid (∀ w1 g, Sl w1 (.slice (some ⟨g, 0, none⟩) 1 1) #[(x0, x1)] → Calls Tryd.prog 14 #[.slice (some ⟨g, 0, none⟩) 1 1] w1 fun e w' => e = .returned (.int .i64 1) ∧ Below w1.heap.size w1 w'))
    (CE1 : Hid (∀ w1, Below (w.alloc (.cells #[.int .i64 x0, .int .i64 x1] 24)).heap.size (w.alloc (.cells #[.int .i64 x0, .int .i64 x1] 24)) w1 → Calls Tryd.prog 8 #[.iface 56 (.int .i64 1), .int .i64 1] w1 fun e w' => e = .returned (.bool true) ∧ Below w1.heap.size w1 w'))
    (CP : Hid (∀ w1, Below (w.alloc (.cells #[.int .i64 x0, .int .i64 x1] 24)).heap.size (w.alloc (.cells #[.int .i64 x0, .int .i64 x1] 24)) w1 → Calls Tryd.prog 15 #[.slice p 0 cap, .agg #[.int .i64 x0, .int .i64 x1]] w1 fun e w' => e = .returned (.tuple #[.slice none 0 0, .iface 56 (.int .i64 1)]) ∧ Below w1.heap.size w1 w'))
    (CE5 : Hid (∀ w1, Below (w.alloc (.cells #[.int .i64 x0, .int .i64 x1] 24)).heap.size (w.alloc (.cells #[.int .i64 x0, .int .i64 x1] 24)) w1 → Calls Tryd.prog 8 #[.iface 56 (.int .i64 5), .int .i64 5] w1 fun e w' => e = .returned (.bool true) ∧ Below w1.heap.size w1 w'))
    (CO : Hid (∀ w1, Below (w.alloc (.cells #[.int .i64 x0, .int .i64 x1] 24)).heap.size (w.alloc (.cells #[.int .i64 x0, .int .i64 x1] 24)) w1 → Calls Tryd.prog 17 #[.slice p 0 cap] w1 fun e w' => e = .returned (.tuple #[.agg #[.int .i64 0, .int .i64 0], .slice none 0 0, .iface 56 (.int .i64 5)]) ∧ Below w1.heap.size w1 w')) :
    Calls Tryd.prog 3 #[.slice p 0 cap, .slice p' n' cap', .agg #[.int .i64 x0, .int .i64 x1]] w fun e w' => e = .returned (.bool true) ∧ Below w.heap.size w w' := by
  have ke : ∀ w, Sem.run Tryd.prog (Op.equalIn 10000 24 (.agg #[.int .i64 0, .int .i64 0]) (.agg #[.int .i64 0, .int .i64 0])) w = .ok true w := fun w => by have := equalIn_item 0 0 0 0 w; simpa using this
  have kq : ∀ w, Sem.run Tryd.prog (binOp .eql 24 (.agg #[.int .i64 0, .int .i64 0]) (.agg #[.int .i64 0, .int .i64 0])) w = .ok (.bool true) w := fun w => by have := eql_item 0 0 0 0 w; simpa using this
  have kg := guard_item
  go_enter Tryd.func3, Tryd.ntmps3
  have hb1 : Below (w.alloc (.cells #[.int .i64 x0, .int .i64 x1] 24)).heap.size (w.alloc (.cells #[.int .i64 x0, .int .i64 x1] 24)) (w.alloc (.cells #[.int .i64 x0, .int .i64 x1] 24)) := Below.refl _ _
  go_wp2_with fail
  refine (CRA.out (w.alloc (.cells #[.int .i64 x0, .int .i64 x1] 24)) hb1).mono ?_
  rintro e w2 ⟨rfl, hb'⟩
  have hb2 := hb1.trans (hb'.mono hb1.size)
  clear hb' hb1
  go_wp2_with fail
  refine (CK.out w2 hb2).mono ?_
  rintro e w3 ⟨rfl, hb'⟩
  have hb3 := hb2.trans (hb'.mono hb2.size)
  clear hb' hb2
  go_wp2_with fail
  refine (CE0.out w3 hb3).mono ?_
  rintro e w4 ⟨rfl, hb'⟩
  have hb4 := hb3.trans (hb'.mono hb3.size)
  clear hb' hb3
  go_wp2_with fail
  refine (CRB.out w4 hb4).mono ?_
  rintro e w5 ⟨rfl, hb'⟩
  have hb5 := hb4.trans (hb'.mono hb4.size)
  clear hb' hb4
  go_wp2_with fail
  refine (CM.out w5 hb5).mono ?_
  rintro e w6 ⟨rfl, hb'⟩
  have hb6 := hb5.trans (hb'.mono hb5.size)
  clear hb' hb5
  go_wp2_with fail
  refine (CEg.out w6 hb6).mono ?_
  rintro e w7 ⟨rfl, hb'⟩
  have hb7 := hb6.trans (hb'.mono hb6.size)
  clear hb' hb6
  go_wp2_with fail
  refine (CT0.out w7 hb7).mono ?_
  rintro e w8 ⟨rfl, hb'⟩
  have hb8 := hb7.trans (hb'.mono hb7.size)
  clear hb' hb7
  obtain ⟨b0, b1, hlt, _⟩ := lbox hb8
  have hbal : Below (w.alloc (.cells #[.int .i64 x0, .int .i64 x1] 24)).heap.size (w.alloc (.cells #[.int .i64 x0, .int .i64 x1] 24)) (w8.alloc (.cells #[.int .i64 x0, .int .i64 x1] 24)) := hb8.alloc hb8.size _
  have Hal : Hid (Sl (w8.alloc (.cells #[.int .i64 x0, .int .i64 x1] 24)) (.slice (some ⟨w8.heap.size, 0, none⟩) 1 1) #[(x0, x1)]) := one_sl w8 x0 x1
  go_wp2_with fail
  refine (CRX.out _ _ Hal.out).mono ?_
  rintro e w9 ⟨rfl, hb'⟩
  have hb9 := hbal.trans (hb'.mono hbal.size)
  clear hb' hbal Hal
  clear b0 b1 hlt
  clear hb8
  obtain ⟨b0, b1, hlt, _⟩ := lbox hb9
  go_wp2_with fail
  refine (CP.out w9 hb9).mono ?_
  rintro e w10 ⟨rfl, hb'⟩
  have hb10 := hb9.trans (hb'.mono hb9.size)
  clear hb' hb9
  clear b0 b1 hlt
  go_wp2_with fail
  refine (CE1.out w10 hb10).mono ?_
  rintro e w11 ⟨rfl, hb'⟩
  have hb11 := hb10.trans (hb'.mono hb10.size)
  clear hb' hb10
  go_wp2_with fail
  refine (CT0.out w11 hb11).mono ?_
  rintro e w12 ⟨rfl, hb'⟩
  have hb12 := hb11.trans (hb'.mono hb11.size)
  clear hb' hb11
  have hba : Below (w.alloc (.cells #[.int .i64 x0, .int .i64 x1] 24)).heap.size (w.alloc (.cells #[.int .i64 x0, .int .i64 x1] 24)) (w12.alloc (.cells #[.int .i64 0, .int .i64 0] 24)) := hb12.alloc hb12.size _
  have hA0 : (w12.alloc (.cells #[.int .i64 0, .int .i64 0] 24)).cell? ⟨w12.heap.size, 0, none⟩ = some (.int .i64 0) := by simp
  have hA1 : (w12.alloc (.cells #[.int .i64 0, .int .i64 0] 24)).cell? ⟨w12.heap.size, 1, none⟩ = some (.int .i64 0) := by simp
  have hAl : w12.heap.size < (w12.alloc (.cells #[.int .i64 0, .int .i64 0] 24)).heap.size := by simp
  go_wp2_with fail
  refine (CO.out _ hba).mono ?_
  rintro e wp ⟨rfl, hb'⟩
  have hbp := hba.trans (hb'.mono hba.size)
  have f0 := (hb'.cell (p := ⟨w12.heap.size, 0, none⟩) hAl).trans hA0
  have f1 := (hb'.cell (p := ⟨w12.heap.size, 1, none⟩) hAl).trans hA1
  have fl : w12.heap.size < wp.heap.size := Nat.lt_of_lt_of_le hAl hb'.size
  clear hb' hA0 hA1 hAl hba
  have hby' : Below wp.heap.size wp (wp.alloc (.cells #[.int .i64 0, .int .i64 0] 24)) := (Below.refl _ _).alloc (Nat.le_refl _) _
  have hby : Below (w.alloc (.cells #[.int .i64 x0, .int .i64 x1] 24)).heap.size (w.alloc (.cells #[.int .i64 x0, .int .i64 x1] 24)) (wp.alloc (.cells #[.int .i64 0, .int .i64 0] 24)) := hbp.alloc hbp.size _
  have e0 := (hby'.cell (p := ⟨w12.heap.size, 0, none⟩) fl).trans f0
  have e1 := (hby'.cell (p := ⟨w12.heap.size, 1, none⟩) fl).trans f1
  have q0 : (wp.alloc (.cells #[.int .i64 0, .int .i64 0] 24)).cell? ⟨wp.heap.size, 0, none⟩ = some (.int .i64 0) := by simp
  have q1 : (wp.alloc (.cells #[.int .i64 0, .int .i64 0] 24)).cell? ⟨wp.heap.size, 1, none⟩ = some (.int .i64 0) := by simp
  have ql : wp.heap.size < (wp.alloc (.cells #[.int .i64 0, .int .i64 0] 24)).heap.size := by simp
  clear f0 f1 hby'
  go_wp2_with fail
  refine (CE5.out _ hby).mono ?_
  rintro e we ⟨rfl, hb'⟩
  have hbe := hby.trans (hb'.mono hby.size)
  have z0 := (hb'.cell (p := ⟨w12.heap.size, 0, none⟩) (Nat.lt_trans fl ql)).trans e0
  have z1 := (hb'.cell (p := ⟨w12.heap.size, 1, none⟩) (Nat.lt_trans fl ql)).trans e1
  have v0 := (hb'.cell (p := ⟨wp.heap.size, 0, none⟩) ql).trans q0
  have v1 := (hb'.cell (p := ⟨wp.heap.size, 1, none⟩) ql).trans q1
  clear hb' e0 e1 q0 q1 hby fl ql
  go_wp2_with fail
  refine (CT0.out we hbe).mono ?_
  rintro e wf ⟨rfl, hb'⟩
  have hbf := hbe.trans (hb'.mono hbe.size)
  clear hb'
  go_wp2
  go_ret
  exact ⟨rfl, (lbox hbf).2.2.2⟩

set_option maxHeartbeats 32000000 in
set_option maxRecDepth 4000 in
theorem binoSays_3 (p p' : Option Addr) (cap n' cap' g sA : Nat) (x0 x1 : Int) (DP : List (Int × List (Int × Int))) (w : World) (hg : ((g : Int) == 0) = false) (hs60 : ((sA : Int) == 60) = false)
    (CE0 : Hid (∀ w1, Below (w.alloc (.cells #[.int .i64 x0, .int .i64 x1] 24)).heap.size (w.alloc (.cells #[.int .i64 x0, .int .i64 x1] 24)) w1 → Calls Tryd.prog 8 #[.nilIface, .int .i64 0] w1 fun e w' => e = .returned (.bool true) ∧ Below w1.heap.size w1 w'))
    (CT0 : Hid (∀ w1, Below (w.alloc (.cells #[.int .i64 x0, .int .i64 x1] 24)).heap.size (w.alloc (.cells #[.int .i64 x0, .int .i64 x1] 24)) w1 → Calls Tryd.prog 13 #[.slice none 0 0, .slice none 0 0] w1 fun e w' => e = .returned (.bool true) ∧ Below w1.heap.size w1 w'))
    (CRA : Hid (∀ w1, Below (w.alloc (.cells #[.int .i64 x0, .int .i64 x1] 24)).heap.size (w.alloc (.cells #[.int .i64 x0, .int .i64 x1] 24)) w1 → Calls Tryd.prog 7 #[.slice p 0 cap] w1 fun e w' => e = .returned (.int .i64 0) ∧ Below w1.heap.size w1 w'))
    (CK : Hid (∀ w1, Below (w.alloc (.cells #[.int .i64 x0, .int .i64 x1] 24)).heap.size (w.alloc (.cells #[.int .i64 x0, .int .i64 x1] 24)) w1 → Calls Tryd.prog 9 #[.slice p 0 cap] w1 fun e w' => e = .returned (.nilIface) ∧ Below w1.heap.size w1 w'))
    (CRB : Hid (∀ w1, Below (w.alloc (.cells #[.int .i64 x0, .int .i64 x1] 24)).heap.size (w.alloc (.cells #[.int .i64 x0, .int .i64 x1] 24)) w1 → Calls Tryd.prog 7 #[.slice p' n' cap'] w1 fun e w' => e = .returned (.int .i64 g) ∧ Below w1.heap.size w1 w'))
    (CEg : Hid (∀ w1, Below (w.alloc (.cells #[.int .i64 x0, .int .i64 x1] 24)).heap.size (w.alloc (.cells #[.int .i64 x0, .int .i64 x1] 24)) w1 → Calls Tryd.prog 8 #[.iface 56 (.int .i64 g), .int .i64 g] w1 fun e w' => e = .returned (.bool true) ∧ Below w1.heap.size w1 w'))
    (CM : Hid (∀ w1, Below (w.alloc (.cells #[.int .i64 x0, .int .i64 x1] 24)).heap.size (w.alloc (.cells #[.int .i64 x0, .int .i64 x1] 24)) w1 → Calls Tryd.prog 12 #[.slice p 0 cap, .slice p' n' cap'] w1 fun e w' => e = .returned (.tuple #[.slice none 0 0, .iface 56 (.int .i64 g)]) ∧ Below w1.heap.size w1 w'))
    (CRX : Hid (∀ w1 g, Sl w1 (.slice (some ⟨g, 0, none⟩) 1 1) #[(x0, x1)] → Calls Tryd.prog 14 #[.slice (some ⟨g, 0, none⟩) 1 1] w1 fun e w' => e = .returned (.int .i64 0) ∧ Below w1.heap.size w1 w'))
    (CSA : Hid (∀ w1, Below (w.alloc (.cells #[.int .i64 x0, .int .i64 x1] 24)).heap.size (w.alloc (.cells #[.int .i64 x0, .int .i64 x1] 24)) w1 → Calls Tryd.prog 10 #[.slice p 0 cap] w1 fun e w' => e = .returned (.int .i64 (sA : Int)) ∧ Below w1.heap.size w1 w'))
    (CRP : Hid (∀ w1 g, Below (w.alloc (.cells #[.int .i64 x0, .int .i64 x1] 24)).heap.size (w.alloc (.cells #[.int .i64 x0, .int .i64 x1] 24)) w1 → HpAt w1 (.slice (some ⟨g, 0, none⟩) 1 1) (zH (aloneH (x0, x1))) → Calls Tryd.prog 11 #[.slice p 0 cap, .slice (some ⟨g, 0, none⟩) 1 1] w1 fun e w' => ∃ u, e = .returned u ∧ HpAt w' u DP ∧ Below w1.heap.size w1 w'))
    (CP : Hid (∀ w1, Below (w.alloc (.cells #[.int .i64 x0, .int .i64 x1] 24)).heap.size (w.alloc (.cells #[.int .i64 x0, .int .i64 x1] 24)) w1 → Calls Tryd.prog 15 #[.slice p 0 cap, .agg #[.int .i64 x0, .int .i64 x1]] w1 fun e w' => ∃ u, e = .returned (.tuple #[u, .nilIface]) ∧ HpAt w' u DP ∧ Below w1.heap.size w1 w'))
    (CTP : Hid (∀ w1 u v, HpAt w1 u DP → HpAt w1 v DP → Calls Tryd.prog 13 #[u, v] w1 fun e w' => e = .returned (.bool true) ∧ Below w1.heap.size w1 w'))
    (CE5 : Hid (∀ w1, Below (w.alloc (.cells #[.int .i64 x0, .int .i64 x1] 24)).heap.size (w.alloc (.cells #[.int .i64 x0, .int .i64 x1] 24)) w1 → Calls Tryd.prog 8 #[.iface 56 (.int .i64 5), .int .i64 5] w1 fun e w' => e = .returned (.bool true) ∧ Below w1.heap.size w1 w'))
    (CO : Hid (∀ w1, Below (w.alloc (.cells #[.int .i64 x0, .int .i64 x1] 24)).heap.size (w.alloc (.cells #[.int .i64 x0, .int .i64 x1] 24)) w1 → Calls Tryd.prog 17 #[.slice p 0 cap] w1 fun e w' => e = .returned (.tuple #[.agg #[.int .i64 0, .int .i64 0], .slice none 0 0, .iface 56 (.int .i64 5)]) ∧ Below w1.heap.size w1 w')) :
    Calls Tryd.prog 3 #[.slice p 0 cap, .slice p' n' cap', .agg #[.int .i64 x0, .int .i64 x1]] w fun e w' => e = .returned (.bool true) ∧ Below w.heap.size w w' := by
  have ke : ∀ w, Sem.run Tryd.prog (Op.equalIn 10000 24 (.agg #[.int .i64 0, .int .i64 0]) (.agg #[.int .i64 0, .int .i64 0])) w = .ok true w := fun w => by have := equalIn_item 0 0 0 0 w; simpa using this
  have kq : ∀ w, Sem.run Tryd.prog (binOp .eql 24 (.agg #[.int .i64 0, .int .i64 0]) (.agg #[.int .i64 0, .int .i64 0])) w = .ok (.bool true) w := fun w => by have := eql_item 0 0 0 0 w; simpa using this
  have kg := guard_item
  go_enter Tryd.func3, Tryd.ntmps3
  have hb1 : Below (w.alloc (.cells #[.int .i64 x0, .int .i64 x1] 24)).heap.size (w.alloc (.cells #[.int .i64 x0, .int .i64 x1] 24)) (w.alloc (.cells #[.int .i64 x0, .int .i64 x1] 24)) := Below.refl _ _
  go_wp2_with fail
  refine (CRA.out (w.alloc (.cells #[.int .i64 x0, .int .i64 x1] 24)) hb1).mono ?_
  rintro e w2 ⟨rfl, hb'⟩
  have hb2 := hb1.trans (hb'.mono hb1.size)
  clear hb' hb1
  go_wp2_with fail
  refine (CK.out w2 hb2).mono ?_
  rintro e w3 ⟨rfl, hb'⟩
  have hb3 := hb2.trans (hb'.mono hb2.size)
  clear hb' hb2
  go_wp2_with fail
  refine (CE0.out w3 hb3).mono ?_
  rintro e w4 ⟨rfl, hb'⟩
  have hb4 := hb3.trans (hb'.mono hb3.size)
  clear hb' hb3
  go_wp2_with fail
  refine (CRB.out w4 hb4).mono ?_
  rintro e w5 ⟨rfl, hb'⟩
  have hb5 := hb4.trans (hb'.mono hb4.size)
  clear hb' hb4
  go_wp2_with fail
  refine (CM.out w5 hb5).mono ?_
  rintro e w6 ⟨rfl, hb'⟩
  have hb6 := hb5.trans (hb'.mono hb5.size)
  clear hb' hb5
  go_wp2_with fail
  refine (CEg.out w6 hb6).mono ?_
  rintro e w7 ⟨rfl, hb'⟩
  have hb7 := hb6.trans (hb'.mono hb6.size)
  clear hb' hb6
  go_wp2_with fail
  refine (CT0.out w7 hb7).mono ?_
  rintro e w8 ⟨rfl, hb'⟩
  have hb8 := hb7.trans (hb'.mono hb7.size)
  clear hb' hb7
  obtain ⟨b0, b1, hlt, _⟩ := lbox hb8
  have hbal : Below (w.alloc (.cells #[.int .i64 x0, .int .i64 x1] 24)).heap.size (w.alloc (.cells #[.int .i64 x0, .int .i64 x1] 24)) (w8.alloc (.cells #[.int .i64 x0, .int .i64 x1] 24)) := hb8.alloc hb8.size _
  have Hal : Hid (Sl (w8.alloc (.cells #[.int .i64 x0, .int .i64 x1] 24)) (.slice (some ⟨w8.heap.size, 0, none⟩) 1 1) #[(x0, x1)]) := one_sl w8 x0 x1
  go_wp2_with fail
  refine (CRX.out _ _ Hal.out).mono ?_
  rintro e w9 ⟨rfl, hb'⟩
  have hb9 := hbal.trans (hb'.mono hbal.size)
  clear hb' hbal Hal
  clear b0 b1 hlt
  clear hb8
  go_wp2_with fail
  refine (CSA.out w9 hb9).mono ?_
  rintro e w10 ⟨rfl, hb'⟩
  have hb10 := hb9.trans (hb'.mono hb9.size)
  clear hb' hb9
  obtain ⟨b0, b1, hlt, _⟩ := lbox hb10
  have hbal : Below (w.alloc (.cells #[.int .i64 x0, .int .i64 x1] 24)).heap.size (w.alloc (.cells #[.int .i64 x0, .int .i64 x1] 24)) ((w10.alloc (.cells #[.int .i64 x0, .int .i64 x1] 24)).alloc (.cells #[.int .i64 0, .slice (some ⟨w10.heap.size, 0, none⟩) 1 1] 37)) := hb10.trans ((alone2_below w10 x0 x1).mono hb10.size)
  have Hal : Hid (HpAt ((w10.alloc (.cells #[.int .i64 x0, .int .i64 x1] 24)).alloc (.cells #[.int .i64 0, .slice (some ⟨w10.heap.size, 0, none⟩) 1 1] 37)) (.slice (some ⟨w10.heap.size + 1, 0, none⟩) 1 1) (zH (aloneH (x0, x1)))) := alone2_at w10 x0 x1
  go_wp2_with fail
  refine (CRP.out _ _ hbal Hal.out).mono ?_
  rintro e w11 ⟨up, rfl, hsl, hb'⟩
  have hb11 := hbal.trans (hb'.mono hbal.size)
  have Hup11 : Hid (HpAt w11 up DP) := hsl
  clear hb' hbal Hal hsl
  clear b0 b1 hlt
  clear hb10
  obtain ⟨b0, b1, hlt, _⟩ := lbox hb11
  go_wp2_with fail
  refine (CP.out w11 hb11).mono ?_
  rintro e w12 ⟨vp, rfl, hsl, hb'⟩
  have hb12 := hb11.trans (hb'.mono hb11.size)
  have Hup12 : Hid (HpAt w12 (up) (DP)) := Hup11.out.below hb'
  clear Hup11
  have Hvp12 : Hid (HpAt w12 (vp) (DP)) := hsl
  clear hsl
  clear hb' hb11
  clear b0 b1 hlt
  go_wp2_with fail
  refine (CE0.out w12 hb12).mono ?_
  rintro e w13 ⟨rfl, hb'⟩
  have hb13 := hb12.trans (hb'.mono hb12.size)
  have Hup13 : Hid (HpAt w13 (up) (DP)) := Hup12.out.below hb'
  clear Hup12
  have Hvp13 : Hid (HpAt w13 (vp) (DP)) := Hvp12.out.below hb'
  clear Hvp12
  clear hb' hb12
  go_wp2_with fail
  refine (CTP.out w13 vp up Hvp13.out Hup13.out).mono ?_
  rintro e w14 ⟨rfl, hb'⟩
  have hb14 := hb13.trans (hb'.mono hb13.size)
  have Hup14 : Hid (HpAt w14 (up) (DP)) := Hup13.out.below hb'
  clear Hup13
  have Hvp14 : Hid (HpAt w14 (vp) (DP)) := Hvp13.out.below hb'
  clear Hvp13
  clear hb' hb13
  clear Hup14
  clear Hvp14
  have hba : Below (w.alloc (.cells #[.int .i64 x0, .int .i64 x1] 24)).heap.size (w.alloc (.cells #[.int .i64 x0, .int .i64 x1] 24)) (w14.alloc (.cells #[.int .i64 0, .int .i64 0] 24)) := hb14.alloc hb14.size _
  have hA0 : (w14.alloc (.cells #[.int .i64 0, .int .i64 0] 24)).cell? ⟨w14.heap.size, 0, none⟩ = some (.int .i64 0) := by simp
  have hA1 : (w14.alloc (.cells #[.int .i64 0, .int .i64 0] 24)).cell? ⟨w14.heap.size, 1, none⟩ = some (.int .i64 0) := by simp
  have hAl : w14.heap.size < (w14.alloc (.cells #[.int .i64 0, .int .i64 0] 24)).heap.size := by simp
  go_wp2_with fail
  refine (CO.out _ hba).mono ?_
  rintro e wp ⟨rfl, hb'⟩
  have hbp := hba.trans (hb'.mono hba.size)
  have f0 := (hb'.cell (p := ⟨w14.heap.size, 0, none⟩) hAl).trans hA0
  have f1 := (hb'.cell (p := ⟨w14.heap.size, 1, none⟩) hAl).trans hA1
  have fl : w14.heap.size < wp.heap.size := Nat.lt_of_lt_of_le hAl hb'.size
  clear hb' hA0 hA1 hAl hba
  have hby' : Below wp.heap.size wp (wp.alloc (.cells #[.int .i64 0, .int .i64 0] 24)) := (Below.refl _ _).alloc (Nat.le_refl _) _
  have hby : Below (w.alloc (.cells #[.int .i64 x0, .int .i64 x1] 24)).heap.size (w.alloc (.cells #[.int .i64 x0, .int .i64 x1] 24)) (wp.alloc (.cells #[.int .i64 0, .int .i64 0] 24)) := hbp.alloc hbp.size _
  have e0 := (hby'.cell (p := ⟨w14.heap.size, 0, none⟩) fl).trans f0
  have e1 := (hby'.cell (p := ⟨w14.heap.size, 1, none⟩) fl).trans f1
  have q0 : (wp.alloc (.cells #[.int .i64 0, .int .i64 0] 24)).cell? ⟨wp.heap.size, 0, none⟩ = some (.int .i64 0) := by simp
  have q1 : (wp.alloc (.cells #[.int .i64 0, .int .i64 0] 24)).cell? ⟨wp.heap.size, 1, none⟩ = some (.int .i64 0) := by simp
  have ql : wp.heap.size < (wp.alloc (.cells #[.int .i64 0, .int .i64 0] 24)).heap.size := by simp
  clear f0 f1 hby'
  go_wp2_with fail
  refine (CE5.out _ hby).mono ?_
  rintro e we ⟨rfl, hb'⟩
  have hbe := hby.trans (hb'.mono hby.size)
  have z0 := (hb'.cell (p := ⟨w14.heap.size, 0, none⟩) (Nat.lt_trans fl ql)).trans e0
  have z1 := (hb'.cell (p := ⟨w14.heap.size, 1, none⟩) (Nat.lt_trans fl ql)).trans e1
  have v0 := (hb'.cell (p := ⟨wp.heap.size, 0, none⟩) ql).trans q0
  have v1 := (hb'.cell (p := ⟨wp.heap.size, 1, none⟩) ql).trans q1
  clear hb' e0 e1 q0 q1 hby fl ql
  go_wp2_with fail
  refine (CT0.out we hbe).mono ?_
  rintro e wf ⟨rfl, hb'⟩
  have hbf := hbe.trans (hb'.mono hbe.size)
  clear hb'
  go_wp2
  go_ret
  exact ⟨rfl, (lbox hbf).2.2.2⟩

set_option maxHeartbeats 32000000 in
set_option maxRecDepth 4000 in
theorem binoSays_4 (p p' : Option Addr) (cap n' cap' sA sB : Nat) (x0 x1 : Int) (DM : List (Int × List (Int × Int))) (w : World) (hw : IntKind.i64.wrap ((sA : Int) + (sB : Int)) = (sA : Int) + (sB : Int)) (hz : ¬ (60 : Int) < (sA : Int) + (sB : Int))
    (CE0 : Hid (∀ w1, Below (w.alloc (.cells #[.int .i64 x0, .int .i64 x1] 24)).heap.size (w.alloc (.cells #[.int .i64 x0, .int .i64 x1] 24)) w1 → Calls Tryd.prog 8 #[.nilIface, .int .i64 0] w1 fun e w' => e = .returned (.bool true) ∧ Below w1.heap.size w1 w'))
    (CT0 : Hid (∀ w1, Below (w.alloc (.cells #[.int .i64 x0, .int .i64 x1] 24)).heap.size (w.alloc (.cells #[.int .i64 x0, .int .i64 x1] 24)) w1 → Calls Tryd.prog 13 #[.slice none 0 0, .slice none 0 0] w1 fun e w' => e = .returned (.bool true) ∧ Below w1.heap.size w1 w'))
    (CRA : Hid (∀ w1, Below (w.alloc (.cells #[.int .i64 x0, .int .i64 x1] 24)).heap.size (w.alloc (.cells #[.int .i64 x0, .int .i64 x1] 24)) w1 → Calls Tryd.prog 7 #[.slice p 0 cap] w1 fun e w' => e = .returned (.int .i64 0) ∧ Below w1.heap.size w1 w'))
    (CK : Hid (∀ w1, Below (w.alloc (.cells #[.int .i64 x0, .int .i64 x1] 24)).heap.size (w.alloc (.cells #[.int .i64 x0, .int .i64 x1] 24)) w1 → Calls Tryd.prog 9 #[.slice p 0 cap] w1 fun e w' => e = .returned (.nilIface) ∧ Below w1.heap.size w1 w'))
    (CRB : Hid (∀ w1, Below (w.alloc (.cells #[.int .i64 x0, .int .i64 x1] 24)).heap.size (w.alloc (.cells #[.int .i64 x0, .int .i64 x1] 24)) w1 → Calls Tryd.prog 7 #[.slice p' n' cap'] w1 fun e w' => e = .returned (.int .i64 0) ∧ Below w1.heap.size w1 w'))
    (CSA : Hid (∀ w1, Below (w.alloc (.cells #[.int .i64 x0, .int .i64 x1] 24)).heap.size (w.alloc (.cells #[.int .i64 x0, .int .i64 x1] 24)) w1 → Calls Tryd.prog 10 #[.slice p 0 cap] w1 fun e w' => e = .returned (.int .i64 (sA : Int)) ∧ Below w1.heap.size w1 w'))
    (CSB : Hid (∀ w1, Below (w.alloc (.cells #[.int .i64 x0, .int .i64 x1] 24)).heap.size (w.alloc (.cells #[.int .i64 x0, .int .i64 x1] 24)) w1 → Calls Tryd.prog 10 #[.slice p' n' cap'] w1 fun e w' => e = .returned (.int .i64 (sB : Int)) ∧ Below w1.heap.size w1 w'))
    (CRM : Hid (∀ w1, Below (w.alloc (.cells #[.int .i64 x0, .int .i64 x1] 24)).heap.size (w.alloc (.cells #[.int .i64 x0, .int .i64 x1] 24)) w1 → Calls Tryd.prog 11 #[.slice p 0 cap, .slice p' n' cap'] w1 fun e w' => ∃ u, e = .returned u ∧ HpAt w' u DM ∧ Below w1.heap.size w1 w'))
    (CM : Hid (∀ w1, Below (w.alloc (.cells #[.int .i64 x0, .int .i64 x1] 24)).heap.size (w.alloc (.cells #[.int .i64 x0, .int .i64 x1] 24)) w1 → Calls Tryd.prog 12 #[.slice p 0 cap, .slice p' n' cap'] w1 fun e w' => ∃ u, e = .returned (.tuple #[u, .nilIface]) ∧ HpAt w' u DM ∧ Below w1.heap.size w1 w'))
    (CTM : Hid (∀ w1 u v, HpAt w1 u DM → HpAt w1 v DM → Calls Tryd.prog 13 #[u, v] w1 fun e w' => e = .returned (.bool true) ∧ Below w1.heap.size w1 w'))
    (CRX : Hid (∀ w1 g, Sl w1 (.slice (some ⟨g, 0, none⟩) 1 1) #[(x0, x1)] → Calls Tryd.prog 14 #[.slice (some ⟨g, 0, none⟩) 1 1] w1 fun e w' => e = .returned (.int .i64 1) ∧ Below w1.heap.size w1 w'))
    (CE1 : Hid (∀ w1, Below (w.alloc (.cells #[.int .i64 x0, .int .i64 x1] 24)).heap.size (w.alloc (.cells #[.int .i64 x0, .int .i64 x1] 24)) w1 → Calls Tryd.prog 8 #[.iface 56 (.int .i64 1), .int .i64 1] w1 fun e w' => e = .returned (.bool true) ∧ Below w1.heap.size w1 w'))
    (CP : Hid (∀ w1, Below (w.alloc (.cells #[.int .i64 x0, .int .i64 x1] 24)).heap.size (w.alloc (.cells #[.int .i64 x0, .int .i64 x1] 24)) w1 → Calls Tryd.prog 15 #[.slice p 0 cap, .agg #[.int .i64 x0, .int .i64 x1]] w1 fun e w' => e = .returned (.tuple #[.slice none 0 0, .iface 56 (.int .i64 1)]) ∧ Below w1.heap.size w1 w'))
    (CE5 : Hid (∀ w1, Below (w.alloc (.cells #[.int .i64 x0, .int .i64 x1] 24)).heap.size (w.alloc (.cells #[.int .i64 x0, .int .i64 x1] 24)) w1 → Calls Tryd.prog 8 #[.iface 56 (.int .i64 5), .int .i64 5] w1 fun e w' => e = .returned (.bool true) ∧ Below w1.heap.size w1 w'))
    (CO : Hid (∀ w1, Below (w.alloc (.cells #[.int .i64 x0, .int .i64 x1] 24)).heap.size (w.alloc (.cells #[.int .i64 x0, .int .i64 x1] 24)) w1 → Calls Tryd.prog 17 #[.slice p 0 cap] w1 fun e w' => e = .returned (.tuple #[.agg #[.int .i64 0, .int .i64 0], .slice none 0 0, .iface 56 (.int .i64 5)]) ∧ Below w1.heap.size w1 w')) :
    Calls Tryd.prog 3 #[.slice p 0 cap, .slice p' n' cap', .agg #[.int .i64 x0, .int .i64 x1]] w fun e w' => e = .returned (.bool true) ∧ Below w.heap.size w w' := by
  have ke : ∀ w, Sem.run Tryd.prog (Op.equalIn 10000 24 (.agg #[.int .i64 0, .int .i64 0]) (.agg #[.int .i64 0, .int .i64 0])) w = .ok true w := fun w => by have := equalIn_item 0 0 0 0 w; simpa using this
  have kq : ∀ w, Sem.run Tryd.prog (binOp .eql 24 (.agg #[.int .i64 0, .int .i64 0]) (.agg #[.int .i64 0, .int .i64 0])) w = .ok (.bool true) w := fun w => by have := eql_item 0 0 0 0 w; simpa using this
  have kg := guard_item
  go_enter Tryd.func3, Tryd.ntmps3
  have hb1 : Below (w.alloc (.cells #[.int .i64 x0, .int .i64 x1] 24)).heap.size (w.alloc (.cells #[.int .i64 x0, .int .i64 x1] 24)) (w.alloc (.cells #[.int .i64 x0, .int .i64 x1] 24)) := Below.refl _ _
  go_wp2_with fail
  refine (CRA.out (w.alloc (.cells #[.int .i64 x0, .int .i64 x1] 24)) hb1).mono ?_
  rintro e w2 ⟨rfl, hb'⟩
  have hb2 := hb1.trans (hb'.mono hb1.size)
  clear hb' hb1
  go_wp2_with fail
  refine (CK.out w2 hb2).mono ?_
  rintro e w3 ⟨rfl, hb'⟩
  have hb3 := hb2.trans (hb'.mono hb2.size)
  clear hb' hb2
  go_wp2_with fail
  refine (CE0.out w3 hb3).mono ?_
  rintro e w4 ⟨rfl, hb'⟩
  have hb4 := hb3.trans (hb'.mono hb3.size)
  clear hb' hb3
  go_wp2_with fail
  refine (CRB.out w4 hb4).mono ?_
  rintro e w5 ⟨rfl, hb'⟩
  have hb5 := hb4.trans (hb'.mono hb4.size)
  clear hb' hb4
  go_wp2_with fail
  refine (CSA.out w5 hb5).mono ?_
  rintro e w6 ⟨rfl, hb'⟩
  have hb6 := hb5.trans (hb'.mono hb5.size)
  clear hb' hb5
  go_wp2_with fail
  refine (CSB.out w6 hb6).mono ?_
  rintro e w7 ⟨rfl, hb'⟩
  have hb7 := hb6.trans (hb'.mono hb6.size)
  clear hb' hb6
  go_wp2_with fail
  refine (CRM.out w7 hb7).mono ?_
  rintro e w8 ⟨um, rfl, hsl, hb'⟩
  have hb8 := hb7.trans (hb'.mono hb7.size)
  have Hum8 : Hid (HpAt w8 (um) (DM)) := hsl
  clear hsl
  clear hb' hb7
  go_wp2_with fail
  refine (CM.out w8 hb8).mono ?_
  rintro e w9 ⟨vm, rfl, hsl, hb'⟩
  have hb9 := hb8.trans (hb'.mono hb8.size)
  have Hum9 : Hid (HpAt w9 (um) (DM)) := Hum8.out.below hb'
  clear Hum8
  have Hvm9 : Hid (HpAt w9 (vm) (DM)) := hsl
  clear hsl
  clear hb' hb8
  go_wp2_with fail
  refine (CE0.out w9 hb9).mono ?_
  rintro e w10 ⟨rfl, hb'⟩
  have hb10 := hb9.trans (hb'.mono hb9.size)
  have Hum10 : Hid (HpAt w10 (um) (DM)) := Hum9.out.below hb'
  clear Hum9
  have Hvm10 : Hid (HpAt w10 (vm) (DM)) := Hvm9.out.below hb'
  clear Hvm9
  clear hb' hb9
  go_wp2_with fail
  refine (CTM.out w10 vm um Hvm10.out Hum10.out).mono ?_
  rintro e w11 ⟨rfl, hb'⟩
  have hb11 := hb10.trans (hb'.mono hb10.size)
  have Hum11 : Hid (HpAt w11 (um) (DM)) := Hum10.out.below hb'
  clear Hum10
  have Hvm11 : Hid (HpAt w11 (vm) (DM)) := Hvm10.out.below hb'
  clear Hvm10
  clear hb' hb10
  clear Hum11
  clear Hvm11
  obtain ⟨b0, b1, hlt, _⟩ := lbox hb11
  have hbal : Below (w.alloc (.cells #[.int .i64 x0, .int .i64 x1] 24)).heap.size (w.alloc (.cells #[.int .i64 x0, .int .i64 x1] 24)) (w11.alloc (.cells #[.int .i64 x0, .int .i64 x1] 24)) := hb11.alloc hb11.size _
  have Hal : Hid (Sl (w11.alloc (.cells #[.int .i64 x0, .int .i64 x1] 24)) (.slice (some ⟨w11.heap.size, 0, none⟩) 1 1) #[(x0, x1)]) := one_sl w11 x0 x1
  go_wp2_with fail
  refine (CRX.out _ _ Hal.out).mono ?_
  rintro e w12 ⟨rfl, hb'⟩
  have hb12 := hbal.trans (hb'.mono hbal.size)
  clear hb' hbal Hal
  clear b0 b1 hlt
  clear hb11
  obtain ⟨b0, b1, hlt, _⟩ := lbox hb12
  go_wp2_with fail
  refine (CP.out w12 hb12).mono ?_
  rintro e w13 ⟨rfl, hb'⟩
  have hb13 := hb12.trans (hb'.mono hb12.size)
  clear hb' hb12
  clear b0 b1 hlt
  go_wp2_with fail
  refine (CE1.out w13 hb13).mono ?_
  rintro e w14 ⟨rfl, hb'⟩
  have hb14 := hb13.trans (hb'.mono hb13.size)
  clear hb' hb13
  go_wp2_with fail
  refine (CT0.out w14 hb14).mono ?_
  rintro e w15 ⟨rfl, hb'⟩
  have hb15 := hb14.trans (hb'.mono hb14.size)
  clear hb' hb14
  have hba : Below (w.alloc (.cells #[.int .i64 x0, .int .i64 x1] 24)).heap.size (w.alloc (.cells #[.int .i64 x0, .int .i64 x1] 24)) (w15.alloc (.cells #[.int .i64 0, .int .i64 0] 24)) := hb15.alloc hb15.size _
  have hA0 : (w15.alloc (.cells #[.int .i64 0, .int .i64 0] 24)).cell? ⟨w15.heap.size, 0, none⟩ = some (.int .i64 0) := by simp
  have hA1 : (w15.alloc (.cells #[.int .i64 0, .int .i64 0] 24)).cell? ⟨w15.heap.size, 1, none⟩ = some (.int .i64 0) := by simp
  have hAl : w15.heap.size < (w15.alloc (.cells #[.int .i64 0, .int .i64 0] 24)).heap.size := by simp
  go_wp2_with fail
  refine (CO.out _ hba).mono ?_
  rintro e wp ⟨rfl, hb'⟩
  have hbp := hba.trans (hb'.mono hba.size)
  have f0 := (hb'.cell (p := ⟨w15.heap.size, 0, none⟩) hAl).trans hA0
  have f1 := (hb'.cell (p := ⟨w15.heap.size, 1, none⟩) hAl).trans hA1
  have fl : w15.heap.size < wp.heap.size := Nat.lt_of_lt_of_le hAl hb'.size
  clear hb' hA0 hA1 hAl hba
  have hby' : Below wp.heap.size wp (wp.alloc (.cells #[.int .i64 0, .int .i64 0] 24)) := (Below.refl _ _).alloc (Nat.le_refl _) _
  have hby : Below (w.alloc (.cells #[.int .i64 x0, .int .i64 x1] 24)).heap.size (w.alloc (.cells #[.int .i64 x0, .int .i64 x1] 24)) (wp.alloc (.cells #[.int .i64 0, .int .i64 0] 24)) := hbp.alloc hbp.size _
  have e0 := (hby'.cell (p := ⟨w15.heap.size, 0, none⟩) fl).trans f0
  have e1 := (hby'.cell (p := ⟨w15.heap.size, 1, none⟩) fl).trans f1
  have q0 : (wp.alloc (.cells #[.int .i64 0, .int .i64 0] 24)).cell? ⟨wp.heap.size, 0, none⟩ = some (.int .i64 0) := by simp
  have q1 : (wp.alloc (.cells #[.int .i64 0, .int .i64 0] 24)).cell? ⟨wp.heap.size, 1, none⟩ = some (.int .i64 0) := by simp
  have ql : wp.heap.size < (wp.alloc (.cells #[.int .i64 0, .int .i64 0] 24)).heap.size := by simp
  clear f0 f1 hby'
  go_wp2_with fail
  refine (CE5.out _ hby).mono ?_
  rintro e we ⟨rfl, hb'⟩
  have hbe := hby.trans (hb'.mono hby.size)
  have z0 := (hb'.cell (p := ⟨w15.heap.size, 0, none⟩) (Nat.lt_trans fl ql)).trans e0
  have z1 := (hb'.cell (p := ⟨w15.heap.size, 1, none⟩) (Nat.lt_trans fl ql)).trans e1
  have v0 := (hb'.cell (p := ⟨wp.heap.size, 0, none⟩) ql).trans q0
  have v1 := (hb'.cell (p := ⟨wp.heap.size, 1, none⟩) ql).trans q1
  clear hb' e0 e1 q0 q1 hby fl ql
  go_wp2_with fail
  refine (CT0.out we hbe).mono ?_
  rintro e wf ⟨rfl, hb'⟩
  have hbf := hbe.trans (hb'.mono hbe.size)
  clear hb'
  go_wp2
  go_ret
  exact ⟨rfl, (lbox hbf).2.2.2⟩

set_option maxHeartbeats 32000000 in
set_option maxRecDepth 4000 in
theorem binoSays_5 (p p' : Option Addr) (cap n' cap' sA sB : Nat) (x0 x1 : Int) (DM DP : List (Int × List (Int × Int))) (w : World) (hw : IntKind.i64.wrap ((sA : Int) + (sB : Int)) = (sA : Int) + (sB : Int)) (hz : ¬ (60 : Int) < (sA : Int) + (sB : Int)) (hs60 : ((sA : Int) == 60) = false)
    (CE0 : Hid (∀ w1, Below (w.alloc (.cells #[.int .i64 x0, .int .i64 x1] 24)).heap.size (w.alloc (.cells #[.int .i64 x0, .int .i64 x1] 24)) w1 → Calls Tryd.prog 8 #[.nilIface, .int .i64 0] w1 fun e w' => e = .returned (.bool true) ∧ Below w1.heap.size w1 w'))
    (CT0 : Hid (∀ w1, Below (w.alloc (.cells #[.int .i64 x0, .int .i64 x1] 24)).heap.size (w.alloc (.cells #[.int .i64 x0, .int .i64 x1] 24)) w1 → Calls Tryd.prog 13 #[.slice none 0 0, .slice none 0 0] w1 fun e w' => e = .returned (.bool true) ∧ Below w1.heap.size w1 w'))
    (CRA : Hid (∀ w1, Below (w.alloc (.cells #[.int .i64 x0, .int .i64 x1] 24)).heap.size (w.alloc (.cells #[.int .i64 x0, .int .i64 x1] 24)) w1 → Calls Tryd.prog 7 #[.slice p 0 cap] w1 fun e w' => e = .returned (.int .i64 0) ∧ Below w1.heap.size w1 w'))
    (CK : Hid (∀ w1, Below (w.alloc (.cells #[.int .i64 x0, .int .i64 x1] 24)).heap.size (w.alloc (.cells #[.int .i64 x0, .int .i64 x1] 24)) w1 → Calls Tryd.prog 9 #[.slice p 0 cap] w1 fun e w' => e = .returned (.nilIface) ∧ Below w1.heap.size w1 w'))
    (CRB : Hid (∀ w1, Below (w.alloc (.cells #[.int .i64 x0, .int .i64 x1] 24)).heap.size (w.alloc (.cells #[.int .i64 x0, .int .i64 x1] 24)) w1 → Calls Tryd.prog 7 #[.slice p' n' cap'] w1 fun e w' => e = .returned (.int .i64 0) ∧ Below w1.heap.size w1 w'))
    (CSA : Hid (∀ w1, Below (w.alloc (.cells #[.int .i64 x0, .int .i64 x1] 24)).heap.size (w.alloc (.cells #[.int .i64 x0, .int .i64 x1] 24)) w1 → Calls Tryd.prog 10 #[.slice p 0 cap] w1 fun e w' => e = .returned (.int .i64 (sA : Int)) ∧ Below w1.heap.size w1 w'))
    (CSB : Hid (∀ w1, Below (w.alloc (.cells #[.int .i64 x0, .int .i64 x1] 24)).heap.size (w.alloc (.cells #[.int .i64 x0, .int .i64 x1] 24)) w1 → Calls Tryd.prog 10 #[.slice p' n' cap'] w1 fun e w' => e = .returned (.int .i64 (sB : Int)) ∧ Below w1.heap.size w1 w'))
    (CRM : Hid (∀ w1, Below (w.alloc (.cells #[.int .i64 x0, .int .i64 x1] 24)).heap.size (w.alloc (.cells #[.int .i64 x0, .int .i64 x1] 24)) w1 → Calls Tryd.prog 11 #[.slice p 0 cap, .slice p' n' cap'] w1 fun e w' => ∃ u, e = .returned u ∧ HpAt w' u DM ∧ Below w1.heap.size w1 w'))
    (CM : Hid (∀ w1, Below (w.alloc (.cells #[.int .i64 x0, .int .i64 x1] 24)).heap.size (w.alloc (.cells #[.int .i64 x0, .int .i64 x1] 24)) w1 → Calls Tryd.prog 12 #[.slice p 0 cap, .slice p' n' cap'] w1 fun e w' => ∃ u, e = .returned (.tuple #[u, .nilIface]) ∧ HpAt w' u DM ∧ Below w1.heap.size w1 w'))
    (CTM : Hid (∀ w1 u v, HpAt w1 u DM → HpAt w1 v DM → Calls Tryd.prog 13 #[u, v] w1 fun e w' => e = .returned (.bool true) ∧ Below w1.heap.size w1 w'))
    (CRX : Hid (∀ w1 g, Sl w1 (.slice (some ⟨g, 0, none⟩) 1 1) #[(x0, x1)] → Calls Tryd.prog 14 #[.slice (some ⟨g, 0, none⟩) 1 1] w1 fun e w' => e = .returned (.int .i64 0) ∧ Below w1.heap.size w1 w'))
    (CRP : Hid (∀ w1 g, Below (w.alloc (.cells #[.int .i64 x0, .int .i64 x1] 24)).heap.size (w.alloc (.cells #[.int .i64 x0, .int .i64 x1] 24)) w1 → HpAt w1 (.slice (some ⟨g, 0, none⟩) 1 1) (zH (aloneH (x0, x1))) → Calls Tryd.prog 11 #[.slice p 0 cap, .slice (some ⟨g, 0, none⟩) 1 1] w1 fun e w' => ∃ u, e = .returned u ∧ HpAt w' u DP ∧ Below w1.heap.size w1 w'))
    (CP : Hid (∀ w1, Below (w.alloc (.cells #[.int .i64 x0, .int .i64 x1] 24)).heap.size (w.alloc (.cells #[.int .i64 x0, .int .i64 x1] 24)) w1 → Calls Tryd.prog 15 #[.slice p 0 cap, .agg #[.int .i64 x0, .int .i64 x1]] w1 fun e w' => ∃ u, e = .returned (.tuple #[u, .nilIface]) ∧ HpAt w' u DP ∧ Below w1.heap.size w1 w'))
    (CTP : Hid (∀ w1 u v, HpAt w1 u DP → HpAt w1 v DP → Calls Tryd.prog 13 #[u, v] w1 fun e w' => e = .returned (.bool true) ∧ Below w1.heap.size w1 w'))
    (CE5 : Hid (∀ w1, Below (w.alloc (.cells #[.int .i64 x0, .int .i64 x1] 24)).heap.size (w.alloc (.cells #[.int .i64 x0, .int .i64 x1] 24)) w1 → Calls Tryd.prog 8 #[.iface 56 (.int .i64 5), .int .i64 5] w1 fun e w' => e = .returned (.bool true) ∧ Below w1.heap.size w1 w'))
    (CO : Hid (∀ w1, Below (w.alloc (.cells #[.int .i64 x0, .int .i64 x1] 24)).heap.size (w.alloc (.cells #[.int .i64 x0, .int .i64 x1] 24)) w1 → Calls Tryd.prog 17 #[.slice p 0 cap] w1 fun e w' => e = .returned (.tuple #[.agg #[.int .i64 0, .int .i64 0], .slice none 0 0, .iface 56 (.int .i64 5)]) ∧ Below w1.heap.size w1 w')) :
    Calls Tryd.prog 3 #[.slice p 0 cap, .slice p' n' cap', .agg #[.int .i64 x0, .int .i64 x1]] w fun e w' => e = .returned (.bool true) ∧ Below w.heap.size w w' := by
  have ke : ∀ w, Sem.run Tryd.prog (Op.equalIn 10000 24 (.agg #[.int .i64 0, .int .i64 0]) (.agg #[.int .i64 0, .int .i64 0])) w = .ok true w := fun w => by have := equalIn_item 0 0 0 0 w; simpa using this
  have kq : ∀ w, Sem.run Tryd.prog (binOp .eql 24 (.agg #[.int .i64 0, .int .i64 0]) (.agg #[.int .i64 0, .int .i64 0])) w = .ok (.bool true) w := fun w => by have := eql_item 0 0 0 0 w; simpa using this
  have kg := guard_item
  go_enter Tryd.func3, Tryd.ntmps3
  have hb1 : Below (w.alloc (.cells #[.int .i64 x0, .int .i64 x1] 24)).heap.size (w.alloc (.cells #[.int .i64 x0, .int .i64 x1] 24)) (w.alloc (.cells #[.int .i64 x0, .int .i64 x1] 24)) := Below.refl _ _
  go_wp2_with fail
  refine (CRA.out (w.alloc (.cells #[.int .i64 x0, .int .i64 x1] 24)) hb1).mono ?_
  rintro e w2 ⟨rfl, hb'⟩
  have hb2 := hb1.trans (hb'.mono hb1.size)
  clear hb' hb1
  go_wp2_with fail
  refine (CK.out w2 hb2).mono ?_
  rintro e w3 ⟨rfl, hb'⟩
  have hb3 := hb2.trans (hb'.mono hb2.size)
  clear hb' hb2
  go_wp2_with fail
  refine (CE0.out w3 hb3).mono ?_
  rintro e w4 ⟨rfl, hb'⟩
  have hb4 := hb3.trans (hb'.mono hb3.size)
  clear hb' hb3
  go_wp2_with fail
  refine (CRB.out w4 hb4).mono ?_
  rintro e w5 ⟨rfl, hb'⟩
  have hb5 := hb4.trans (hb'.mono hb4.size)
  clear hb' hb4
  go_wp2_with fail
  refine (CSA.out w5 hb5).mono ?_
  rintro e w6 ⟨rfl, hb'⟩
  have hb6 := hb5.trans (hb'.mono hb5.size)
  clear hb' hb5
  go_wp2_with fail
  refine (CSB.out w6 hb6).mono ?_
  rintro e w7 ⟨rfl, hb'⟩
  have hb7 := hb6.trans (hb'.mono hb6.size)
  clear hb' hb6
  go_wp2_with fail
  refine (CRM.out w7 hb7).mono ?_
  rintro e w8 ⟨um, rfl, hsl, hb'⟩
  have hb8 := hb7.trans (hb'.mono hb7.size)
  have Hum8 : Hid (HpAt w8 (um) (DM)) := hsl
  clear hsl
  clear hb' hb7
  go_wp2_with fail
  refine (CM.out w8 hb8).mono ?_
  rintro e w9 ⟨vm, rfl, hsl, hb'⟩
  have hb9 := hb8.trans (hb'.mono hb8.size)
  have Hum9 : Hid (HpAt w9 (um) (DM)) := Hum8.out.below hb'
  clear Hum8
  have Hvm9 : Hid (HpAt w9 (vm) (DM)) := hsl
  clear hsl
  clear hb' hb8
  go_wp2_with fail
  refine (CE0.out w9 hb9).mono ?_
  rintro e w10 ⟨rfl, hb'⟩
  have hb10 := hb9.trans (hb'.mono hb9.size)
  have Hum10 : Hid (HpAt w10 (um) (DM)) := Hum9.out.below hb'
  clear Hum9
  have Hvm10 : Hid (HpAt w10 (vm) (DM)) := Hvm9.out.below hb'
  clear Hvm9
  clear hb' hb9
  go_wp2_with fail
  refine (CTM.out w10 vm um Hvm10.out Hum10.out).mono ?_
  rintro e w11 ⟨rfl, hb'⟩
  have hb11 := hb10.trans (hb'.mono hb10.size)
  have Hum11 : Hid (HpAt w11 (um) (DM)) := Hum10.out.below hb'
  clear Hum10
  have Hvm11 : Hid (HpAt w11 (vm) (DM)) := Hvm10.out.below hb'
  clear Hvm10
  clear hb' hb10
  clear Hum11
  clear Hvm11
  obtain ⟨b0, b1, hlt, _⟩ := lbox hb11
  have hbal : Below (w.alloc (.cells #[.int .i64 x0, .int .i64 x1] 24)).heap.size (w.alloc (.cells #[.int .i64 x0, .int .i64 x1] 24)) (w11.alloc (.cells #[.int .i64 x0, .int .i64 x1] 24)) := hb11.alloc hb11.size _
  have Hal : Hid (Sl (w11.alloc (.cells #[.int .i64 x0, .int .i64 x1] 24)) (.slice (some ⟨w11.heap.size, 0, none⟩) 1 1) #[(x0, x1)]) := one_sl w11 x0 x1
  go_wp2_with fail
  refine (CRX.out _ _ Hal.out).mono ?_
  rintro e w12 ⟨rfl, hb'⟩
  have hb12 := hbal.trans (hb'.mono hbal.size)
  clear hb' hbal Hal
  clear b0 b1 hlt
  clear hb11
  go_wp2_with fail
  refine (CSA.out w12 hb12).mono ?_
  rintro e w13 ⟨rfl, hb'⟩
  have hb13 := hb12.trans (hb'.mono hb12.size)
  clear hb' hb12
  obtain ⟨b0, b1, hlt, _⟩ := lbox hb13
  have hbal : Below (w.alloc (.cells #[.int .i64 x0, .int .i64 x1] 24)).heap.size (w.alloc (.cells #[.int .i64 x0, .int .i64 x1] 24)) ((w13.alloc (.cells #[.int .i64 x0, .int .i64 x1] 24)).alloc (.cells #[.int .i64 0, .slice (some ⟨w13.heap.size, 0, none⟩) 1 1] 37)) := hb13.trans ((alone2_below w13 x0 x1).mono hb13.size)
  have Hal : Hid (HpAt ((w13.alloc (.cells #[.int .i64 x0, .int .i64 x1] 24)).alloc (.cells #[.int .i64 0, .slice (some ⟨w13.heap.size, 0, none⟩) 1 1] 37)) (.slice (some ⟨w13.heap.size + 1, 0, none⟩) 1 1) (zH (aloneH (x0, x1)))) := alone2_at w13 x0 x1
  go_wp2_with fail
  refine (CRP.out _ _ hbal Hal.out).mono ?_
  rintro e w14 ⟨up, rfl, hsl, hb'⟩
  have hb14 := hbal.trans (hb'.mono hbal.size)
  have Hup14 : Hid (HpAt w14 up DP) := hsl
  clear hb' hbal Hal hsl
  clear b0 b1 hlt
  clear hb13
  obtain ⟨b0, b1, hlt, _⟩ := lbox hb14
  go_wp2_with fail
  refine (CP.out w14 hb14).mono ?_
  rintro e w15 ⟨vp, rfl, hsl, hb'⟩
  have hb15 := hb14.trans (hb'.mono hb14.size)
  have Hup15 : Hid (HpAt w15 (up) (DP)) := Hup14.out.below hb'
  clear Hup14
  have Hvp15 : Hid (HpAt w15 (vp) (DP)) := hsl
  clear hsl
  clear hb' hb14
  clear b0 b1 hlt
  go_wp2_with fail
  refine (CE0.out w15 hb15).mono ?_
  rintro e w16 ⟨rfl, hb'⟩
  have hb16 := hb15.trans (hb'.mono hb15.size)
  have Hup16 : Hid (HpAt w16 (up) (DP)) := Hup15.out.below hb'
  clear Hup15
  have Hvp16 : Hid (HpAt w16 (vp) (DP)) := Hvp15.out.below hb'
  clear Hvp15
  clear hb' hb15
  go_wp2_with fail
  refine (CTP.out w16 vp up Hvp16.out Hup16.out).mono ?_
  rintro e w17 ⟨rfl, hb'⟩
  have hb17 := hb16.trans (hb'.mono hb16.size)
  have Hup17 : Hid (HpAt w17 (up) (DP)) := Hup16.out.below hb'
  clear Hup16
  have Hvp17 : Hid (HpAt w17 (vp) (DP)) := Hvp16.out.below hb'
  clear Hvp16
  clear hb' hb16
  clear Hup17
  clear Hvp17
  have hba : Below (w.alloc (.cells #[.int .i64 x0, .int .i64 x1] 24)).heap.size (w.alloc (.cells #[.int .i64 x0, .int .i64 x1] 24)) (w17.alloc (.cells #[.int .i64 0, .int .i64 0] 24)) := hb17.alloc hb17.size _
  have hA0 : (w17.alloc (.cells #[.int .i64 0, .int .i64 0] 24)).cell? ⟨w17.heap.size, 0, none⟩ = some (.int .i64 0) := by simp
  have hA1 : (w17.alloc (.cells #[.int .i64 0, .int .i64 0] 24)).cell? ⟨w17.heap.size, 1, none⟩ = some (.int .i64 0) := by simp
  have hAl : w17.heap.size < (w17.alloc (.cells #[.int .i64 0, .int .i64 0] 24)).heap.size := by simp
  go_wp2_with fail
  refine (CO.out _ hba).mono ?_
  rintro e wp ⟨rfl, hb'⟩
  have hbp := hba.trans (hb'.mono hba.size)
  have f0 := (hb'.cell (p := ⟨w17.heap.size, 0, none⟩) hAl).trans hA0
  have f1 := (hb'.cell (p := ⟨w17.heap.size, 1, none⟩) hAl).trans hA1
  have fl : w17.heap.size < wp.heap.size := Nat.lt_of_lt_of_le hAl hb'.size
  clear hb' hA0 hA1 hAl hba
  have hby' : Below wp.heap.size wp (wp.alloc (.cells #[.int .i64 0, .int .i64 0] 24)) := (Below.refl _ _).alloc (Nat.le_refl _) _
  have hby : Below (w.alloc (.cells #[.int .i64 x0, .int .i64 x1] 24)).heap.size (w.alloc (.cells #[.int .i64 x0, .int .i64 x1] 24)) (wp.alloc (.cells #[.int .i64 0, .int .i64 0] 24)) := hbp.alloc hbp.size _
  have e0 := (hby'.cell (p := ⟨w17.heap.size, 0, none⟩) fl).trans f0
  have e1 := (hby'.cell (p := ⟨w17.heap.size, 1, none⟩) fl).trans f1
  have q0 : (wp.alloc (.cells #[.int .i64 0, .int .i64 0] 24)).cell? ⟨wp.heap.size, 0, none⟩ = some (.int .i64 0) := by simp
  have q1 : (wp.alloc (.cells #[.int .i64 0, .int .i64 0] 24)).cell? ⟨wp.heap.size, 1, none⟩ = some (.int .i64 0) := by simp
  have ql : wp.heap.size < (wp.alloc (.cells #[.int .i64 0, .int .i64 0] 24)).heap.size := by simp
  clear f0 f1 hby'
  go_wp2_with fail
  refine (CE5.out _ hby).mono ?_
  rintro e we ⟨rfl, hb'⟩
  have hbe := hby.trans (hb'.mono hby.size)
  have z0 := (hb'.cell (p := ⟨w17.heap.size, 0, none⟩) (Nat.lt_trans fl ql)).trans e0
  have z1 := (hb'.cell (p := ⟨w17.heap.size, 1, none⟩) (Nat.lt_trans fl ql)).trans e1
  have v0 := (hb'.cell (p := ⟨wp.heap.size, 0, none⟩) ql).trans q0
  have v1 := (hb'.cell (p := ⟨wp.heap.size, 1, none⟩) ql).trans q1
  clear hb' e0 e1 q0 q1 hby fl ql
  go_wp2_with fail
  refine (CT0.out we hbe).mono ?_
  rintro e wf ⟨rfl, hb'⟩
  have hbf := hbe.trans (hb'.mono hbe.size)
  clear hb'
  go_wp2
  go_ret
  exact ⟨rfl, (lbox hbf).2.2.2⟩

end Go.Proofs.YtmkjalpgeljnkaaDoor
