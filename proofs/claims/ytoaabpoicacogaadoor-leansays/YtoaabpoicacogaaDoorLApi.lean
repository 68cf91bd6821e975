/-
  lean.Check, lean.Spine, lean.Meld, lean.Push and lean.Pop.
-/
import Derived.Test.YtoaabpoicacogaaDoorLRd
import Derived.Test.YtoaabpoicacogaaDoorLMeld
import Derived.Test.YtoaabpoicacogaaDoorLWrite
namespace Go.Proofs.YtoaabpoicacogaaDoor
open Go.RowKit Go.Sort Go.Proofs

theorem IsL.says {xs : List Nd} {t : LT} (h : IsL xs t) : LT.Says xs 0 t.spine := ReadsL.says h
theorem IsL.unique {xs : List Nd} {t t' : LT} (h : IsL xs t) (h' : IsL xs t') : t = t' := LT.enc_unique (h.enc.symm.trans h'.enc)
theorem IsL.of {t : LT} (h1 : LT.Leans t) (h2 : InR t) (h3 : t.size ≤ 60) : IsL (LT.enc 0 t) t := ⟨rfl, h1, h2, h3⟩
theorem IsL.meld {xs ys : List Nd} {s t : LT} (h : IsL xs s) (h' : IsL ys t) (hs : s.size + t.size ≤ 60) : IsL (LT.enc 0 (LT.meld s t)) (LT.meld s t) :=
  IsL.of (LT.meld_leans s t h.leans h'.leans) (h.inR.meld h'.inR) (by rw [LT.meld_size]; exact hs)
theorem IsL.nil : IsL [] .nil := ⟨rfl, trivial, fun x hx => by simp [LT.items] at hx, by simp [LT.size]⟩
theorem says_cases (xs : List Nd) : (∃ t, IsL xs t) ∨ ∃ k, k ≠ 0 ∧ LT.Says xs k 0 := by
  by_cases h60 : 60 < xs.length
  · exact Or.inr ⟨4, by decide, .full h60⟩
  · cases ho : xs.any LT.outN4 with
    | true => exact Or.inr ⟨1, by decide, .range (by omega) ho⟩
    | false =>
      by_cases hg : LT.Good xs
      · obtain ⟨t, e, ht⟩ := hg
        exact Or.inl ⟨t, e, ht, inR_of (o := 0) (by rw [← e]; exact ho), by have := congrArg List.length e; rw [LT.enc_length] at this; omega⟩
      · exact Or.inr ⟨3, by decide, .shape (by omega) ho hg⟩
theorem read_good (v : Value) (xs : List Nd) (t : LT) (w : World) (h : SlE EN w v xs) (ht : IsL xs t) :
    Calls Tryd.prog 28 #[v] w fun e w' => ∃ q, e = .returned (.tuple #[.pointer q, .nilIface]) ∧ TrAt w' t (.pointer q) ∧ Below w.heap.size w w' := by
  refine (read_any v xs w h (by rw [ht.len]; have := ht.le; omega)).mono ?_
  rintro e w' ⟨⟨q, s, rfl, hs, hi⟩ | ⟨k, hk, hs, rfl⟩, hb⟩
  · obtain rfl := ht.unique hi
    exact ⟨q, rfl, hs, hb⟩
  · exact absurd (hs.unique ht.says).1 hk
theorem read_bad (v : Value) (xs : List Nd) (k : Nat) (w : World) (h : SlE EN w v xs) (hk : k ≠ 0) (hs : LT.Says xs k 0) (hbig : xs.length ≤ 9223372036854775807) :
    Calls Tryd.prog 28 #[v] w fun e w' => e = .returned (.tuple #[.pointer none, .iface 56 (.int .i64 k)]) ∧ Below w.heap.size w w' := by
  refine (read_any v xs w h hbig).mono ?_
  rintro e w' ⟨⟨q, s, rfl, _, hi⟩ | ⟨k', hk', hs', rfl⟩, hb⟩
  · exact absurd (hs.unique hi.says).1 hk
  · rw [(hs.unique hs').1]
    exact ⟨rfl, hb⟩

theorem leanCheck_good (v : Value) (xs : List Nd) (t : LT) (w : World) (h : SlE EN w v xs) (ht : IsL xs t) :
    Calls Tryd.prog 10 #[v] w fun e w' => e = .returned .nilIface ∧ Below w.heap.size w w' := by
  have c := read_good v xs t w h ht
  obtain ⟨p, cap, rfl, _⟩ := h
  go_enter Tryd.func10, Tryd.ntmps10
  go_wp2_with fail
  refine c.mono ?_
  rintro e w1 ⟨q, rfl, ht1, hb⟩
  clear ht1
  go_wp2
  go_ret
  exact ⟨rfl, hb⟩
theorem leanCheck_bad (v : Value) (xs : List Nd) (k : Nat) (w : World) (h : SlE EN w v xs) (hk : k ≠ 0) (hs : LT.Says xs k 0) (hbig : xs.length ≤ 9223372036854775807) :
    Calls Tryd.prog 10 #[v] w fun e w' => e = .returned (.iface 56 (.int .i64 k)) ∧ Below w.heap.size w w' := by
  have c := read_bad v xs k w h hk hs hbig
  obtain ⟨p, cap, rfl, _⟩ := h
  clear hs
  go_enter Tryd.func10, Tryd.ntmps10
  go_wp2_with fail
  refine c.mono ?_
  rintro e w1 ⟨rfl, hb⟩
  go_wp2
  go_ret
  exact ⟨rfl, hb⟩
theorem leanSpine_good (v : Value) (xs : List Nd) (t : LT) (w : World) (h : SlE EN w v xs) (ht : IsL xs t) :
    Calls Tryd.prog 11 #[v] w fun e w' => e = .returned (.tuple #[.int .i64 (t.spine : Nat), .nilIface]) ∧ Below w.heap.size w w' := by
  have c := read_good v xs t w h ht
  obtain ⟨p, cap, rfl, _⟩ := h
  go_enter Tryd.func11, Tryd.ntmps11
  go_wp2_with fail
  refine c.mono ?_
  rintro e w1 ⟨q, rfl, ht1, hb⟩
  have cs := spineOf_any ht1
  clear ht1
  go_wp2_with fail
  refine cs.mono ?_
  rintro e w2 ⟨rfl, rfl⟩
  go_wp2
  go_ret2
  exact ⟨rfl, hb⟩
theorem leanSpine_bad (v : Value) (xs : List Nd) (k : Nat) (w : World) (h : SlE EN w v xs) (hk : k ≠ 0) (hs : LT.Says xs k 0) (hbig : xs.length ≤ 9223372036854775807) :
    Calls Tryd.prog 11 #[v] w fun e w' => e = .returned (.tuple #[.int .i64 0, .iface 56 (.int .i64 k)]) ∧ Below w.heap.size w w' := by
  have c := read_bad v xs k w h hk hs hbig
  obtain ⟨p, cap, rfl, _⟩ := h
  clear hs
  go_enter Tryd.func11, Tryd.ntmps11
  go_wp2_with fail
  refine c.mono ?_
  rintro e w1 ⟨rfl, hb⟩
  go_wp2
  go_ret2
  exact ⟨rfl, hb⟩

set_option maxHeartbeats 2000000 in
theorem leanMeld_A (p1 p2 : Option Addr) (n1 c1 n2 c2 k : Nat) (w : World)
    (C1 : Hid (Calls Tryd.prog 28 #[.slice p1 n1 c1] w fun e w' => e = .returned (.tuple #[.pointer none, .iface 56 (.int .i64 k)]) ∧ Below w.heap.size w w')) :
    Calls Tryd.prog 13 #[.slice p1 n1 c1, .slice p2 n2 c2] w fun e w' => e = .returned (.tuple #[.slice none 0 0, .iface 56 (.int .i64 k)]) ∧ Below w.heap.size w w' := by
  go_enter Tryd.func13, Tryd.ntmps13
  go_wp2_with fail
  refine C1.out.mono ?_
  rintro e w1 ⟨rfl, hb⟩
  go_wp2
  go_ret2
  exact ⟨rfl, hb⟩
set_option maxHeartbeats 2000000 in
theorem leanMeld_B (p1 p2 : Option Addr) (n1 c1 n2 c2 k : Nat) (s : LT) (w : World)
    (C1 : Hid (Calls Tryd.prog 28 #[.slice p1 n1 c1] w fun e w' => ∃ q, e = .returned (.tuple #[.pointer q, .nilIface]) ∧ TrAt w' s (.pointer q) ∧ Below w.heap.size w w'))
    (C2 : Hid (∀ w1, Below w.heap.size w w1 → Calls Tryd.prog 28 #[.slice p2 n2 c2] w1 fun e w' => e = .returned (.tuple #[.pointer none, .iface 56 (.int .i64 k)]) ∧ Below w1.heap.size w1 w')) :
    Calls Tryd.prog 13 #[.slice p1 n1 c1, .slice p2 n2 c2] w fun e w' => e = .returned (.tuple #[.slice none 0 0, .iface 56 (.int .i64 k)]) ∧ Below w.heap.size w w' := by
  go_enter Tryd.func13, Tryd.ntmps13
  go_wp2_with fail
  refine C1.out.mono ?_
  rintro e w1 ⟨q, rfl, ht, hb⟩
  clear ht
  go_wp2_with fail
  refine (C2.out w1 hb).mono ?_
  rintro e w2 ⟨rfl, hb2⟩
  go_wp2
  go_ret2
  exact ⟨rfl, hb.trans (hb2.mono hb.size)⟩
set_option maxHeartbeats 2000000 in
theorem leanMeld_C (p1 p2 : Option Addr) (n1 c1 n2 c2 : Nat) (s t : LT) (w : World) (h1 : n1 ≤ 60) (h2 : n2 ≤ 60) (h3 : 60 < n1 + n2)
    (C1 : Hid (Calls Tryd.prog 28 #[.slice p1 n1 c1] w fun e w' => ∃ q, e = .returned (.tuple #[.pointer q, .nilIface]) ∧ TrAt w' s (.pointer q) ∧ Below w.heap.size w w'))
    (C2 : Hid (∀ w1, Below w.heap.size w w1 → Calls Tryd.prog 28 #[.slice p2 n2 c2] w1 fun e w' => ∃ q, e = .returned (.tuple #[.pointer q, .nilIface]) ∧ TrAt w' t (.pointer q) ∧ Below w1.heap.size w1 w')) :
    Calls Tryd.prog 13 #[.slice p1 n1 c1, .slice p2 n2 c2] w fun e w' => e = .returned (.tuple #[.slice none 0 0, .iface 56 (.int .i64 4)]) ∧ Below w.heap.size w w' := by
  have hw : IntKind.i64.wrap ((n1 : Int) + (n2 : Int)) = (n1 : Int) + (n2 : Int) := by rw [IntKind.wrap_i64]; omega
  have hz : (60 : Int) < (n1 : Int) + (n2 : Int) := by omega
  go_enter Tryd.func13, Tryd.ntmps13
  go_wp2_with fail
  refine C1.out.mono ?_
  rintro e w1 ⟨q, rfl, ht, hb⟩
  clear ht
  go_wp2_with fail
  refine (C2.out w1 hb).mono ?_
  rintro e w2 ⟨q2, rfl, ht2, hb2⟩
  clear ht2
  go_wp2
  go_ret2
  exact ⟨rfl, hb.trans (hb2.mono hb.size)⟩
set_option maxHeartbeats 2000000 in
theorem leanMeld_D (p1 p2 : Option Addr) (n1 c1 n2 c2 : Nat) (s t : LT) (w : World) (h1 : n1 ≤ 60) (h2 : n2 ≤ 60) (h3 : ¬ 60 < n1 + n2) (HS : Hid (s.size = n1)) (HT : Hid (t.size = n2))
    (C1 : Hid (Calls Tryd.prog 28 #[.slice p1 n1 c1] w fun e w' => ∃ q, e = .returned (.tuple #[.pointer q, .nilIface]) ∧ TrAt w' s (.pointer q) ∧ Below w.heap.size w w'))
    (C2 : Hid (∀ w1, Below w.heap.size w w1 → Calls Tryd.prog 28 #[.slice p2 n2 c2] w1 fun e w' => ∃ q, e = .returned (.tuple #[.pointer q, .nilIface]) ∧ TrAt w' t (.pointer q) ∧ Below w1.heap.size w1 w')) :
    Calls Tryd.prog 13 #[.slice p1 n1 c1, .slice p2 n2 c2] w fun e w' => ∃ v', e = .returned (.tuple #[v', .nilIface]) ∧ OwnE EN w' w.heap.size v' (LT.enc 0 (LT.meld s t)) ∧ Below w.heap.size w w' := by
  have hw : IntKind.i64.wrap ((n1 : Int) + (n2 : Int)) = (n1 : Int) + (n2 : Int) := by rw [IntKind.wrap_i64]; omega
  have hz : ¬ (60 : Int) < (n1 : Int) + (n2 : Int) := by omega
  go_enter Tryd.func13, Tryd.ntmps13
  go_wp2_with fail
  refine C1.out.mono ?_
  rintro e w1 ⟨q, rfl, ht, hb⟩
  have HT1 : Hid (TrAt w1 s (.pointer q)) := ht
  clear ht
  go_wp2_with fail
  refine (C2.out w1 hb).mono ?_
  rintro e w2 ⟨q2, rfl, ht2, hb2'⟩
  have hb2 := hb.trans (hb2'.mono hb.size)
  have HT2 : Hid (TrAt w2 s (.pointer q)) := HT1.out.below hb2'
  have HU2 : Hid (TrAt w2 t (.pointer q2)) := ht2
  clear ht2 hb2' HT1
  go_wp2_with fail
  refine (melded_any s t (by rw [HS.out, HT.out]; omega) w2 _ _ HT2.out HU2.out).mono ?_
  rintro e w3 ⟨v3, rfl, ht3, hb3'⟩
  have hb3 := hb2.trans (hb3'.mono hb2.size)
  obtain ⟨q3, rfl⟩ := ht3.ptr
  have HT3 : Hid (TrAt w3 (LT.meld s t) (.pointer q3)) := ht3
  clear ht3 hb3'
  go_wp2_with fail
  refine (written_any (LT.meld s t) _ w3 HT3.out (by rw [LT.meld_size, HS.out, HT.out]; omega)).mono ?_
  rintro e w4 ⟨v4, rfl, ho4, hb4'⟩
  have hb4 := hb3.trans (hb4'.mono hb3.size)
  have HO4 : Hid (OwnE EN w4 w.heap.size v4 (LT.enc 0 (LT.meld s t))) := ho4.weak hb3.size
  clear ho4 hb4'
  go_wp2
  go_ret2
  exact ⟨_, rfl, HO4.out, hb4⟩

/-- What is wrong with two heaps that are to be melded. -/
def MeldE (xs ys : List Nd) (k : Nat) : Prop := (k ≠ 0 ∧ LT.Says xs k 0) ∨ (∃ s, IsL xs s ∧ ((k ≠ 0 ∧ LT.Says ys k 0) ∨ (∃ t, IsL ys t ∧ 60 < s.size + t.size ∧ k = 4)))
theorem leanMeld_bad (v1 v2 : Value) (xs ys : List Nd) (k : Nat) (w : World) (hx : SlE EN w v1 xs) (hy : SlE EN w v2 ys) (hbx : xs.length ≤ 9223372036854775807) (hby : ys.length ≤ 9223372036854775807) (hk : MeldE xs ys k) :
    Calls Tryd.prog 13 #[v1, v2] w fun e w' => e = .returned (.tuple #[.slice none 0 0, .iface 56 (.int .i64 k)]) ∧ Below w.heap.size w w' := by
  obtain ⟨p1, c1, rfl, _⟩ := id hx
  obtain ⟨p2, c2, rfl, _⟩ := id hy
  rcases hk with ⟨h0, hs⟩ | ⟨s, hs, ⟨h0, ht⟩ | ⟨t, ht, h60, rfl⟩⟩
  · exact leanMeld_A _ _ _ _ _ _ k w (read_bad _ xs k w hx h0 hs hbx)
  · exact leanMeld_B _ _ _ _ _ _ k s w (read_good _ xs s w hx hs) fun w1 hb => read_bad _ ys k w1 (hy.below hb) h0 ht hby
  · exact leanMeld_C _ _ _ _ _ _ s t w (by rw [hs.len]; exact hs.le) (by rw [ht.len]; exact ht.le) (by rw [hs.len, ht.len]; exact h60) (read_good _ xs s w hx hs) fun w1 hb => read_good _ ys t w1 (hy.below hb) ht
theorem leanMeld_good (v1 v2 : Value) (xs ys : List Nd) (s t : LT) (w : World) (hx : SlE EN w v1 xs) (hy : SlE EN w v2 ys) (hs : IsL xs s) (ht : IsL ys t) (h60 : s.size + t.size ≤ 60) :
    Calls Tryd.prog 13 #[v1, v2] w fun e w' => ∃ v', e = .returned (.tuple #[v', .nilIface]) ∧ OwnE EN w' w.heap.size v' (LT.enc 0 (LT.meld s t)) ∧ Below w.heap.size w w' := by
  obtain ⟨p1, c1, rfl, _⟩ := id hx
  obtain ⟨p2, c2, rfl, _⟩ := id hy
  exact leanMeld_D _ _ _ _ _ _ s t w (by rw [hs.len]; exact hs.le) (by rw [ht.len]; exact ht.le) (by rw [hs.len, ht.len]; omega) hs.len.symm ht.len.symm (read_good _ xs s w hx hs) fun w1 hb => read_good _ ys t w1 (hy.below hb) ht
#print axioms leanMeld_bad
#print axioms leanMeld_good
end Go.Proofs.YtoaabpoicacogaaDoor
