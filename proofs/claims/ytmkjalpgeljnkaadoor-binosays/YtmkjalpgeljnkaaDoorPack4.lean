/-
  Texts that the proof leans on, packed: RefB10, DRanks, DSize, DFalls, Copy, DCheck, DRead, DLink.
-/
import Derived.Test.YtmkjalpgeljnkaaDoorPack3
import Derived.Deep.RegionHeld3
import Derived.Test.YtmkjalpgeljnkaaDoorPack2
import Derived.Test.YtmkjalpgeljnkaaDoorPack1
import Derived.OwnWalk
import Derived.Laws.IdiomCopy

/-
  The document's heaps of trees: the least one taken out.
-/
namespace Go.Proofs.YtmkjalpgeljnkaaDoor
open Go.RowKit Go.Sort Go.Proofs

/-- 'append(dst, x)' at trees, at a step of a region that draws its order. -/
theorem step_appendT {w : World} {ops : Array Oper} {o : Oper} {a : Act} {K : Act → World → Prop} {Q : Exit → Act → World → Prop} {R : Prop} (hgd : o.guard = none) (s x : Operand)
    (ho : o.op = .call { callee := .builtin .append, args := #[s, x], argTypes := #[ET.S, ET.S] }) (base : Nat) (v : Value) (ys : List (Int × SlV)) (y : Int × SlV) (ad : Addr) (c : Nat) (hs : a.eval s = v) (hown : OwnE ET w base v ys)
    (hx : a.eval x = .slice (some ad) 1 c) (hc : ∀ j u, (ET.enc y)[j]? = some u → w.cell? (ad.add j) = some u) (hsz : ys.length ≤ 100000) (hbase : base ≤ w.heap.size)
    (h : ∀ v' w', OwnE ET w' base v' (ys ++ [y]) → w.grownBy w' v.ownBlock → K (a.put o.dst v') w') :
    if Region.wanted o (yielded ops a.tmps) = true then Oper.wp Tryd.prog o a w K Q else R := by
  have hw : Region.wanted o (yielded ops a.tmps) = true := by simp [Region.wanted, hgd]
  rw [if_pos hw]
  obtain ⟨v', w', hr, h2, h3, h4⟩ := run_appendE w o.type base v ys [y] ad 1 c rfl hown (by rw [El.flat_one]; exact hc) (by omega) hbase
  unfold Oper.wp execOp
  simp only [ho, resolve, invoke, builtin, Sem.run_bind, Sem.run_pure, Result.andThen_ok, List.map_toArray, List.map_cons, List.map_nil, hs, hx, hr]
  exact h _ _ h2 h3
theorem Sl.room {w : World} {p : Option Addr} {n c : Nat} {l : List (Int × Int)} (h : Sl w (.slice p n c) l.toArray) : l.length ≤ c := by
  obtain ⟨p', c', e, hc, _⟩ := h
  simp only [Value.slice.injEq, List.size_toArray] at e hc
  obtain ⟨rfl, rfl, rfl⟩ := e
  exact hc
/-- All trees but one, of the first i. -/
def restTo (h : List TrL) (a : Nat) : Nat → List TrL
  | 0 => []
  | i + 1 => if i = a then restTo h a i else restTo h a i ++ (h[i]?).toList
theorem restTo_eq (h : List TrL) (a : Nat) : ∀ i, i ≤ h.length → restTo h a i = if i ≤ a then h.take i else (h.take i).eraseIdx a
  | 0, _ => by simp [restTo]
  | i + 1, hi => by
    have hlt : i < h.length := hi
    have ih := restTo_eq h a i (by omega)
    have et : h.take (i + 1) = h.take i ++ [h[i]] := List.take_succ_eq_append_getElem hlt
    have hl : (h.take i).length = i := by rw [List.length_take]; omega
    simp only [restTo]
    by_cases e : i = a
    · subst e
      rw [if_pos rfl, ih, if_pos (Nat.le_refl _), if_neg (by omega), et]
      rw [List.eraseIdx_append_of_length_le (by omega), hl, Nat.sub_self]
      simp
    · rw [if_neg e, ih, List.getElem?_eq_getElem hlt]
      by_cases q : i ≤ a
      · rw [if_pos q, if_pos (by omega), et]; rfl
      · rw [if_neg q, if_neg (by omega), et, List.eraseIdx_append_of_lt_length (by omega)]; rfl
theorem restTo_all {h : List TrL} {a : Nat} (ha : a < h.length) : restTo h a h.length = h.eraseIdx a := by
  rw [restTo_eq h a h.length (Nat.le_refl _), if_neg (by omega), List.take_length]
/-- A list of trees of one's own, whose items lay in w0. -/
def OwnH (w0 w : World) (base : Nat) (v : Value) (h : List TrL) : Prop :=
  ∃ ts : List (Int × SlV), OwnE ET w base v ts ∧ ts.length = h.length ∧ ∀ (i r : Nat) (l : List (Int × Int)), h[i]? = some (r, l) → ∃ s : SlV, ts[i]? = some ((r : Int), s) ∧ Sl w0 (.slice s.1 s.2.1 s.2.2) l.toArray
theorem OwnH.toF {w0 w : World} {base : Nat} {v : Value} {h : List TrL} (H : OwnH w0 w base v h) : HpF w0 w v h := by
  obtain ⟨ts, h1, h2, h3⟩ := H
  exact ⟨ts, h1.sl, h2, h3⟩
theorem OwnH.nil (w0 w : World) (base : Nat) : OwnH w0 w base (.slice none 0 0) [] := ⟨[], OwnE.nil ET w base, rfl, fun i r l e => by simp at e⟩
theorem OwnH.below {w0 w w' : World} {base : Nat} {v : Value} {h : List TrL} (H : OwnH w0 w base v h) (hb : Below w.heap.size w w') : OwnH w0 w' base v h := by
  obtain ⟨ts, h1, h2, h3⟩ := H
  exact ⟨ts, h1.below hb, h2, h3⟩
theorem OwnH.kept {w0 w w' : World} {base : Nat} {v : Value} {h : List TrL} {B : Nat} (H : OwnH w0 w base v h) (hb : Below B w w') (hv : ∀ g, v.ownBlock = some g → g < B) : OwnH w0 w' base v h := by
  obtain ⟨ts, h1, h2, h3⟩ := H
  refine ⟨ts, ?_, h2, h3⟩
  obtain ⟨e1, ⟨rfl, h0⟩ | ⟨g, cap, cur, rfl, hg, hgg, r⟩⟩ := h1
  · exact ⟨e1, Or.inl ⟨rfl, h0⟩⟩
  · exact ⟨e1, Or.inr ⟨g, cap, cur, rfl, hg, (hb.block g (hv g rfl)).trans hgg, r⟩⟩
theorem OwnH.form {w0 w : World} {base : Nat} {v : Value} {h : List TrL} (H : OwnH w0 w base v h) : ∃ p c, v = .slice p h.length c := by
  obtain ⟨ts, h1, h2, _⟩ := H
  obtain ⟨p, c, e⟩ := h1.form
  exact ⟨p, c, by rw [← h2]; exact e⟩
theorem own_snoc {w0 w' : World} {base r : Nat} {v' : Value} {h : List TrL} {ts : List (Int × SlV)} {s : SlV} {l : List (Int × Int)} (h2 : ts.length = h.length) (h3 : ∀ (i r : Nat) (l : List (Int × Int)), h[i]? = some (r, l) → ∃ s : SlV, ts[i]? = some ((r : Int), s) ∧ Sl w0 (.slice s.1 s.2.1 s.2.2) l.toArray)
    (ho : OwnE ET w' base v' (ts ++ [((r : Int), s)])) (hs : Sl w0 (.slice s.1 s.2.1 s.2.2) l.toArray) : OwnH w0 w' base v' (h ++ [(r, l)]) := by
  refine ⟨_, ho, by simp [h2], fun i q m e => ?_⟩
  rcases Nat.lt_or_ge i h.length with k | k
  · rw [List.getElem?_append_left k] at e
    obtain ⟨s', a, b⟩ := h3 i q m e
    exact ⟨s', by rw [List.getElem?_append_left (by rw [h2]; exact k)]; exact a, b⟩
  · rw [List.getElem?_append_right k] at e
    have hi : i = h.length := by
      rcases Nat.eq_or_lt_of_le k with q | q
      · exact q.symm
      · rw [List.getElem?_eq_none (by simp; omega)] at e; cases e
    subst hi
    simp only [Nat.sub_self, List.getElem?_cons_zero, Option.some.injEq, Prod.mk.injEq] at e
    obtain ⟨rfl, rfl⟩ := e
    exact ⟨s, by rw [List.getElem?_append_right (by rw [h2]; exact Nat.le_refl _), h2]; simp, hs⟩
/-- An item of noughts in a block of its own. -/
structure Two0 (w : World) (g : Nat) : Prop where
  lt : g < w.heap.size
  c0 : w.cell? ⟨g, 0, none⟩ = some (.int .i64 0)
  c1 : w.cell? ⟨g, 1, none⟩ = some (.int .i64 0)
  f0 : w.frozen? ⟨g, 0, none⟩ = false
  f1 : w.frozen? ⟨g, 1, none⟩ = false
theorem Two0.block {w w' : World} {g : Nat} (h : Two0 w g) (hs : w.heap.size ≤ w'.heap.size) (hb : w'.heap[g]? = w.heap[g]?) : Two0 w' g :=
  ⟨Nat.lt_of_lt_of_le h.lt hs, (World.cell?_of_block (a := ⟨g, 0, none⟩) hb).trans h.c0, (World.cell?_of_block (a := ⟨g, 1, none⟩) hb).trans h.c1, (World.frozen?_of_block (a := ⟨g, 0, none⟩) hb).trans h.f0, (World.frozen?_of_block (a := ⟨g, 1, none⟩) hb).trans h.f1⟩
theorem Two0.below {w w' : World} {g B : Nat} (h : Two0 w g) (hb : Below B w w') (hB : g < B) : Two0 w' g := h.block hb.size (hb.block g hB)
theorem Two0.new (w : World) : Two0 (w.alloc (.cells #[.int .i64 0, .int .i64 0] 24)) w.heap.size := ⟨by simp, by simp, by simp, by simp, by simp⟩

theorem OwnE.apart' {P : Program} {α : Type} {E : El P α} {w w' : World} {base f : Nat} {v : Value} {ys : List α} (h : OwnE E w base v ys) (hf : f < base) (hg : w.grownBy w' (Option.some f)) : OwnE E w' base v ys := by
  refine World.ownsRow.kept h hg ?_
  cases hv : v.ownBlock with
  | none => exact Or.inl rfl
  | some g => exact Or.inr fun e => by have h1 := (World.ownsRow.lt h g hv).1; have h2 := Option.some.inj e; omega
theorem OutAt.apart' {F : Nat → Prop} {f : Nat} {w w' : World} {B : Option Nat} {os : List (Int × SlV)} {h : List TrL} (H : OutAt F w B os h) (hF : F f) (hg : w.grownBy w' (some f)) : OutAt F w' B os h :=
  ⟨H.1, fun i r l e => by obtain ⟨s, a, b⟩ := H.2 i r l e; exact ⟨s, a, b.apart hF hg⟩⟩
/-- What is left: a heap, apart from all that was made between w0 and w. -/
def LeftAt (w0 w w' : World) (u : Value) (h : List TrL) : Prop := ∃ os base, w.heap.size < base ∧ OwnE ET w' base u os ∧ OutAt (fun g => w0.heap.size ≤ g ∧ g ≤ w.heap.size) w' u.ownBlock os h
theorem LeftAt.heap {w0 w w' : World} {u : Value} {h : List TrL} (H : LeftAt w0 w w' u h) : HpAt w' u (zH h) := by
  obtain ⟨os, base, _, h1, h2⟩ := H
  exact h2.heap h1
theorem LeftAt.apart {w0 w w' w2 : World} {u : Value} {h : List TrL} {f : Nat} (H : LeftAt w0 w w' u h) (h0 : w0.heap.size ≤ f) (h1 : f < w.heap.size) (hg : w'.grownBy w2 (some f)) : HpAt w2 u (zH h) := by
  obtain ⟨os, base, hb, o1, o2⟩ := H
  exact (o2.apart' ⟨h0, by omega⟩ hg).heap (o1.apart' (by omega) hg)

set_option maxHeartbeats 64000000 in
set_option maxRecDepth 8000 in
theorem binoPop_some (p : Option Addr) (n cap : Nat) (h : List TrL) (w0 w : World) (HW0 : Hid (Below w0.heap.size w0 w)) (hn0 : 0 < n) (hn : n ≤ 60) (HN : Hid (h.length = n)) (HA : Hid (HpF w0 w (.slice p n cap) h)) (HG : Hid (OkH h)) :
    Calls Tryd.prog 16 #[.slice p n cap] w fun e w' => ∃ (r : Nat) (x : Int × Int) (l : List (Int × Int)) (u : Value), e = .returned (.tuple #[.agg #[.int .i64 x.1, .int .i64 x.2], u]) ∧ h[atTo h n]? = some (r, x :: l) ∧ LeftAt w0 w w' u (popH h) ∧ Below w.heap.size w w' := by
  have hw0 : w0.heap.size ≤ w.heap.size := HW0.out.size
  go_enter Tryd.func16, Tryd.ntmps16
  go_wp2
  go_loopg [4, 5] n (fun gg v4 v5 wr => ∃ (i a : Nat), v4 = .int .i64 a ∧ v5 = .int .i64 i ∧ i ≤ n ∧ n - i ≤ gg ∧ a < n ∧ Hid (atTo h i = a) ∧ Hid (Two0 wr w.heap.size) ∧ Hid (Below w.heap.size w wr))
  case atStart => exact ⟨0, 0, rfl, rfl, Nat.zero_le _, by omega, hn0, rfl, Two0.new w, (Below.refl _ _).alloc (Nat.le_refl _) _⟩
  case round =>
    obtain ⟨i, a, rfl, rfl, hin, hg, han, HAT, HT, HB⟩ := hrel
    have hB : w.heap.size ≤ wr.heap.size := HB.out.size
    by_cases hlt : i < n
    · have hlz : (i : Int) < (n : Int) := by omega
      have haz : (a : Int) < (n : Int) := by omega
      obtain ⟨r1, l1, q1, c1, blk, off, b1, o1, e1, _, rfl, hblk, t0, t1, _, rfl, hb1, hp1, hl1, k1⟩ := HA.out.first HG.out (i := i) (by rw [HN.out]; exact hlt)
      obtain ⟨r2, l2, q2, c2, blk2, off2, b2, o2, e2, _, hq2, _, u0, u1, _, rfl, hb2, hp2, hl2, k2⟩ := HA.out.first HG.out (i := a) (by rw [HN.out]; exact han)
      simp only [Option.some.injEq, Addr.mk.injEq] at hq2
      obtain ⟨rfl, rfl, _⟩ := hq2
      have x1 := (HB.out.cell (p := ⟨blk, off + i * 2 + 1, none⟩) hblk).trans t1
      have x2 := (HB.out.cell (p := ⟨blk, off + a * 2 + 1, none⟩) hblk).trans u1
      have y1 := (HB.out.cell (p := ⟨b1, o1, none⟩) (Nat.lt_of_lt_of_le hb1 hw0)).trans ((HW0.out.cell (p := ⟨b1, o1, none⟩) hb1).trans k1)
      have y2 := (HB.out.cell (p := ⟨b2, o2, none⟩) (Nat.lt_of_lt_of_le hb2 hw0)).trans ((HW0.out.cell (p := ⟨b2, o2, none⟩) hb2).trans k2)
      generalize l1.length = n1 at *
      generalize l2.length = n2 at *
      have hz1 : (0 : Int) < (n1 : Int) := by omega
      have hz2 : (0 : Int) < (n2 : Int) := by omega
      have HS : Hid (atTo h (i + 1) = if rootK h i < rootK h a then i else a) := by show _ = _; rw [← HAT.out]; rfl
      clear e1 e2 t0 t1 u0 u1 k1 k2 HAT
      generalize rootK h i = kn at *
      generalize rootK h a = ko at *
      by_cases hless : kn < ko
      · have hd : decide (kn < ko) = true := decide_eq_true hless
        have HAT' : Hid (atTo h (i + 1) = i) := by show _ = _; rw [HS.out, if_pos hless]
        clear HS
        go_wp2_with fail
        go_quiet (fail)
        go_wp2
        go_roundg (n - (i + 1))
        case measure => omega
        case rel => exact ⟨i + 1, i, rfl, by go_num, by omega, Nat.le_refl _, hlt, HAT', HT.out.block (Nat.le_refl _) rfl, below_drewN HB.out nq⟩
      · have hd : decide (kn < ko) = false := decide_eq_false hless
        have HAT' : Hid (atTo h (i + 1) = a) := by show _ = _; rw [HS.out, if_neg hless]
        clear HS
        go_wp2_with fail
        go_quiet (fail)
        go_wp2
        go_roundg (n - (i + 1))
        case measure => omega
        case rel => exact ⟨i + 1, a, rfl, by go_num, by omega, Nat.le_refl _, han, HAT', HT.out.block (Nat.le_refl _) rfl, below_drewN HB.out nq⟩
    · have hlz : ¬ (i : Int) < (n : Int) := by omega
      obtain rfl : i = n := by omega
      go_wp2
      go_loopg [6, 8] i (fun gg v6 v8 wr => ∃ (j m c : Nat) (q : Option Addr), v6 = .slice q m c ∧ v8 = .int .i64 j ∧ j ≤ i ∧ i - j ≤ gg ∧ m ≤ j ∧ Hid ((restTo h a j).length = m) ∧ Hid (OwnH w0 wr (w.heap.size + 1) (.slice q m c) (restTo h a j)) ∧ Hid (Two0 wr w.heap.size) ∧ Hid (Below w.heap.size w wr))
      case atStart => exact ⟨0, 0, 0, none, rfl, rfl, Nat.zero_le _, by omega, by omega, rfl, OwnH.nil _ _ _, HT, HB⟩
      case round =>
        obtain ⟨j, m, c, q, rfl, rfl, hji, hg2, hmj, HM, HO, HT, HB⟩ := hrel
        have hB : w.heap.size ≤ wr.heap.size := HB.out.size
        have hNl : w.heap.size < wr.heap.size := HT.out.lt
        by_cases hlt2 : j < i
        · have hlz2 : (j : Int) < (i : Int) := by omega
          obtain ⟨r1, l1, q1, c1, blk, off, b1, o1, e1, _, rfl, hblk, t0, t1, s1, rfl, hb1, hp1, hl1, _⟩ := HA.out.first HG.out (i := j) (by rw [HN.out]; exact hlt2)
          have x0 := (HB.out.cell (p := ⟨blk, off + j * 2, none⟩) hblk).trans t0
          have x1 := (HB.out.cell (p := ⟨blk, off + j * 2 + 1, none⟩) hblk).trans t1
          have hblw : blk < wr.heap.size := by omega
          by_cases hja : j = a
          · have hne : ((j : Int) != (a : Int)) = false := by rw [bne_eq_false_iff_eq]; omega
            have HE : Hid (restTo h a (j + 1) = restTo h a j) := by show _ = _; simp only [restTo]; rw [if_pos hja]
            clear e1 t0 t1 s1 hja
            go_wp2
            go_roundg (i - (j + 1))
            case measure => omega
            case rel => exact ⟨j + 1, m, c, q, rfl, by go_num, by omega, Nat.le_refl _, by omega, (show _ = _ by rw [HE.out]; exact HM.out), (show OwnH _ _ _ _ _ by rw [HE.out]; exact HO.out), HT, HB⟩
          · have hne : ((j : Int) != (a : Int)) = true := by rw [bne_iff_ne]; omega
            have HE : Hid (restTo h a (j + 1) = restTo h a j ++ [(r1, l1)]) := by show _ = _; simp only [restTo]; rw [if_neg hja, e1]; rfl
            obtain ⟨ts, ho1, ho2, ho3⟩ := HO.out
            have HO1 : Hid (OwnE ET wr (w.heap.size + 1) (.slice q m c) ts) := ho1
            have HO2 : Hid (ts.length = (restTo h a j).length) := ho2
            have HO3 : Hid (∀ (i r : Nat) (l : List (Int × Int)), (restTo h a j)[i]? = some (r, l) → ∃ s : SlV, ts[i]? = some ((r : Int), s) ∧ Sl w0 (.slice s.1 s.2.1 s.2.2) l.toArray) := ho3
            have HS1 : Hid (Sl w0 (.slice (some ⟨b1, o1, none⟩) l1.length c1) l1.toArray) := s1
            clear e1 t0 t1 s1 ho1 ho2 ho3 HO hja
            generalize l1.length = n1 at *
            go_wp2_with (at_builtin; refine wpList_appendE ET rfl (.tmp 44) (.tmp 49) rfl (w.heap.size + 1) _ _ ((r1 : Int), (some ⟨b1, o1, none⟩, n1, c1)) ⟨wr.heap.size, 0, none⟩ 1 rfl (HO1.out.alloc _) rfl (new_tree wr _ rfl _ _ _ _) (by rw [HO2.out, HM.out]; omega) (by simp; omega) ?_; intro v1 w1 hA1 hg1 _)
            have hbA : Below (w.heap.size + 1) wr w1 := ((Below.refl _ _).alloc (by omega) _).trans (below_ownE (HO1.out.alloc _) hg1 (Nat.le_refl _) (by simp; omega))
            have HOA : Hid (OwnH w0 w1 (w.heap.size + 1) v1 (restTo h a (j + 1))) := by show OwnH _ _ _ _ _; rw [HE.out]; exact own_snoc HO2.out HO3.out hA1 HS1.out
            obtain ⟨p1, cc1, hv1⟩ := HOA.out.form
            have hlen : (restTo h a (j + 1)).length = m + 1 := by rw [HE.out, List.length_append, HM.out]; rfl
            rw [hlen] at hv1
            subst hv1
            go_roundg (i - (j + 1))
            case measure => omega
            case rel => exact ⟨j + 1, m + 1, cc1, p1, rfl, by go_num, by omega, Nat.le_refl _, by omega, hlen, HOA, HT.out.below hbA (by omega), HB.out.trans (hbA.mono (by omega))⟩
        · have hlz2 : ¬ (j : Int) < (i : Int) := by omega
          obtain rfl : j = i := by omega
          have HOE : Hid (OwnH w0 wr (w.heap.size + 1) (.slice q m c) (h.eraseIdx a)) := by show OwnH _ _ _ _ _; have := HO.out; rw [← HN.out, restTo_all (by rw [HN.out]; exact han)] at this; exact this
          clear HO HM
          obtain ⟨R, l, q1, c1, blk, off, b, o, e1, hR5, rfl, hblk, t0, t1, s1, rfl, hb1, hp1, hl1, _⟩ := HA.out.first HG.out (i := a) (by rw [HN.out]; exact han)
          have HE1 : Hid (h[a]? = some (R, l)) := e1
          have HSL : Hid (Sl w0 (.slice (some ⟨b, o, none⟩) l.length c1) l.toArray) := s1
          obtain ⟨ln, hln⟩ : ∃ m, l.length = m := ⟨_, rfl⟩
          rw [hln] at t1 hp1 hl1
          have HLN : Hid (l.length = ln) := hln
          have haz : (a : Int) < (j : Int) := by omega
          have HIT : Hid (IsT R l) := HG.out.isH.trees _ (List.mem_of_getElem? e1)
          have HLR : Hid (ln = twoN R) := by show _ = _; rw [← HLN.out]; exact HIT.out.len
          clear e1 s1 hln
          obtain ⟨wl, hwl⟩ : ∃ wl : World, wl = wr := ⟨_, rfl⟩
          subst hwl
          go_wp2
          go_loopg [7, 9] R (fun gg v7 v9 wr => ∃ (k m' c' : Nat) (q' : Option Addr), v7 = .slice q' m' c' ∧ v9 = .int .i64 k ∧ k ≤ R ∧ R - k ≤ gg ∧ m' ≤ k ∧ Hid ((partsL R l k).length = m') ∧ Hid (OwnH w0 wr wl.heap.size (.slice q' m' c') (partsL R l k)) ∧ Hid (Below wl.heap.size wl wr))
          case atStart => exact ⟨0, 0, 0, none, rfl, rfl, Nat.zero_le _, by omega, by omega, rfl, OwnH.nil _ _ _, Below.refl _ _⟩
          case round =>
            obtain ⟨k, m', c', q', rfl, rfl, hkR, hg3, hmk, HMK, HOP, HBL⟩ := hrel
            have hBL : wl.heap.size ≤ wr.heap.size := HBL.out.size
            have hBwr : Below w.heap.size w wr := HB.out.trans (HBL.out.mono hB)
            have x0 := (hBwr.cell (p := ⟨blk, off + a * 2, none⟩) hblk).trans t0
            have x1 := (hBwr.cell (p := ⟨blk, off + a * 2 + 1, none⟩) hblk).trans t1
            by_cases hlt3 : k < R
            · have hlz3 : (k : Int) < (R : Int) := by omega
              obtain ⟨Q, hQ⟩ : ∃ Q, twoN k = Q := ⟨_, rfl⟩
              have cp := fun W => pow2_any k (by omega) W
              rw [hQ] at cp
              have hQp : 0 < Q := by rw [← hQ]; exact twoN_pos k
              have hQ2 : Q * 2 ≤ ln := by
                rw [HLR.out, ← hQ, ← twoN_succ]
                exact Nat.pow_le_pow_right (by omega) hlt3
              obtain ⟨lo, hlo⟩ : ∃ lo, ln + 1 = lo + Q * 2 := ⟨ln + 1 - Q * 2, by omega⟩
              obtain ⟨T, hT⟩ : ∃ T, T = lo + Q := ⟨_, rfl⟩
              have hcap : ln ≤ c1 := by have := HSL.out.room; rw [HLN.out] at this; exact this
              have HPT : Hid (Sl w0 (.slice (some ⟨b, o + lo * 2, none⟩) (T - lo) (c1 - lo)) ((l.drop (1 + (2 ^ R - 2 ^ (k + 1)))).take (2 ^ k)).toArray) := by
                show Sl _ _ _
                have h1 : twoN k = 2 ^ k := rfl
                have h2 : twoN R = 2 ^ R := rfl
                have h3 : 2 ^ (k + 1) = 2 ^ k * 2 := Nat.pow_succ 2 k
                have hlr := HLR.out
                have e1 : 1 + (2 ^ R - 2 ^ (k + 1)) = lo := by
                  rw [h3, ← h1, ← h2, hQ, ← hlr]; omega
                have e2 : 2 ^ k = Q := by rw [← h1]; exact hQ
                rw [e1, e2]
                obtain ⟨p', c', e', _, h0 | ⟨b', o', hp', hr⟩⟩ := HSL.out
                · rw [List.size_toArray, HLN.out] at h0; omega
                · simp only [Value.slice.injEq] at e'
                  obtain ⟨e3, _, _⟩ := e'
                  rw [hp'] at e3
                  simp only [Option.some.injEq, Addr.mk.injEq, and_true] at e3
                  obtain ⟨rfl, rfl⟩ := e3
                  have hr2 := ((hr.cut lo).2.cut Q).1
                  have hl2 : ((l.drop lo).take Q).length = Q := by rw [List.length_take, List.length_drop, HLN.out]; omega
                  have := Sl.of_rd (cap := c1 - lo) hr2 (by rw [List.size_toArray, hl2]; omega)
                  rw [List.size_toArray, hl2] at this
                  rw [show T - lo = Q by omega]
                  exact this
              have HPE : Hid (partsL R l (k + 1) = partsL R l k ++ [(k, (l.drop (1 + (2 ^ R - 2 ^ (k + 1)))).take (2 ^ k))]) := rfl
              generalize ((l.drop (1 + (2 ^ R - 2 ^ (k + 1)))).take (2 ^ k)) = PT at HPT HPE
              have hw1 : IntKind.i64.wrap ((ln : Int) - (Q : Int)) = (ln : Int) - (Q : Int) := by rw [IntKind.wrap_i64]; omega
              have hw2 : IntKind.i64.wrap ((ln : Int) - (Q : Int) + 1) = (T : Int) := by rw [IntKind.wrap_i64]; omega
              have hw3 : IntKind.i64.wrap ((T : Int) - (Q : Int)) = (lo : Int) := by rw [IntKind.wrap_i64]; omega
              have hz4 : (lo : Int) ≤ (T : Int) := by omega
              have hz5 : (T : Int) ≤ (c1 : Int) := by omega
              have hz6 : ¬ c1 = lo := by omega
              obtain ⟨ts, ho1, ho2, ho3⟩ := HOP.out
              have HO1 : Hid (OwnE ET wr wl.heap.size (.slice q' m' c') ts) := ho1
              have HO2 : Hid (ts.length = (partsL R l k).length) := ho2
              have HO3 : Hid (∀ (i r : Nat) (l' : List (Int × Int)), (partsL R l k)[i]? = some (r, l') → ∃ s : SlV, ts[i]? = some ((r : Int), s) ∧ Sl w0 (.slice s.1 s.2.1 s.2.2) l'.toArray) := ho3
              have HQ : Hid (twoN k = Q) := hQ
              have HTT : Hid (T = lo + Q ∧ ln + 1 = lo + Q * 2) := ⟨hT, hlo⟩
              clear hQ hT hlo ho1 ho2 ho3 HOP
              go_wp2_with fail
              go_quiet (first | (go_at_call 27; refine Calls.quiet_of_same (cp _)))
              have hq : Below wl.heap.size wl (wr.drewN nq) := below_drewN HBL.out nq
              have HO4 : Hid (OwnE ET (wr.drewN nq) wl.heap.size (.slice q' m' c') ts) := HO1.out.drewN nq
              have xq : (wr.drewN nq).cell? ⟨blk, off + a * 2 + 1, none⟩ = some (.slice (some ⟨b, o, none⟩) ln c1) := x1
              have hblq : blk < (wr.drewN nq).heap.size := Nat.lt_of_lt_of_le hblk (Nat.le_trans hB hBL)
              have hlq : wl.heap.size ≤ (wr.drewN nq).heap.size := hBL
              clear x0 x1 HO1 hBwr HBL hBL
              generalize wr.drewN nq = wq at hq HO4 xq hblq hlq ⊢
              have hblwl : blk < wl.heap.size := Nat.lt_of_lt_of_le hblk hB
              go_wp2_with fail
              go_region_held3 (fun w' => w'.cell? ⟨blk, off + a * 2 + 1, none⟩ = some (.slice (some ⟨b, o, none⟩) ln c1)) (first | go_keep | (exact kk)) (first | (go_at_call 27; refine (cp _).mono ?_; rintro e w' ⟨rfl, rfl⟩) | (refine step_appendT (by rfl) (.tmp 70) (.tmp 84) (by rfl) wl.heap.size (.slice q' m' c') ts ((k : Int), (some ⟨b, o + lo * 2, none⟩, T - lo, c1 - lo)) ⟨wq.heap.size, 0, none⟩ 1 (by rfl) (OwnE.drewN (OwnE.alloc HO4.out _) 1) (by rfl) (new_tree wq _ rfl _ _ _ _) (by rw [HO2.out, HMK.out]; omega) (by simp; omega) ?_; intro v2 w2 h2 hg2; have hb2 : Below wl.heap.size wl w2 := (below_drewN (hq.alloc hlq _) 1).trans (below_ownE (OwnE.drewN (OwnE.alloc HO4.out _) 1) hg2 (Nat.le_refl _) (by simp; omega)); have kk : w2.cell? ⟨blk, off + a * 2 + 1, none⟩ = some (.slice (some ⟨b, o, none⟩) ln c1) := (hb2.cell (p := ⟨blk, off + a * 2 + 1, none⟩) hblwl).trans ((hq.cell (p := ⟨blk, off + a * 2 + 1, none⟩) hblwl).symm.trans xq); have HO5 : Hid (OwnE ET w2 wl.heap.size v2 (ts ++ [((k : Int), (some ⟨b, o + lo * 2, none⟩, T - lo, c1 - lo))])) := h2; clear h2 hg2))
              all_goals
                have HOH : Hid (OwnH w0 w2 wl.heap.size v2 (partsL R l (k + 1))) := by show OwnH _ _ _ _ _; rw [HPE.out]; exact own_snoc HO2.out HO3.out HO5.out HPT.out
                obtain ⟨p2, cc2, hv2⟩ := HOH.out.form
                have hlen2 : (partsL R l (k + 1)).length = m' + 1 := by rw [HPE.out, List.length_append, HMK.out]; rfl
                rw [hlen2] at hv2
                subst hv2
                clear kk HO4 HO5 hq xq
                go_wp2
                go_roundg (R - (k + 1))
                case measure => omega
                case rel => exact ⟨k + 1, m' + 1, cc2, p2, rfl, by go_num, by omega, Nat.le_refl _, by omega, hlen2, HOH, hb2⟩
            · have hlz3 : ¬ (k : Int) < (R : Int) := by omega
              obtain rfl : k = R := by omega
              obtain ⟨⟨v0, v1⟩, l', hll⟩ := HIT.out.cons
              subst hll
              have HWr : Hid (Below w.heap.size w wr) := hBwr
              have HTW : Hid (Two0 wr w.heap.size) := HT.out.below HBL.out hNl
              have HOR : Hid (OwnH w0 wr (w.heap.size + 1) (.slice q m c) (h.eraseIdx a)) := HOE.out.below HBL.out
              have HPO : Hid (OkH (h.eraseIdx a) ∧ OkH (partsL k ((v0, v1) :: l') k) ∧ popH h = meldH (h.eraseIdx a) (partsL k ((v0, v1) :: l') k)) := by
                obtain ⟨r', x', l'', p1, p2, p3, p4, _⟩ := HG.out.pop (fun e => by have := HN.out; rw [e] at this; simp at this; omega)
                rw [HN.out, HAT.out] at p1
                rw [HE1.out] at p1
                simp only [Option.some.injEq, Prod.mk.injEq, List.cons.injEq] at p1
                obtain ⟨rfl, rfl, rfl⟩ := p1
                rw [HN.out, HAT.out] at p2 p4
                exact ⟨p2, p3, p4⟩
              obtain ⟨k0, k1⟩ : w0.cell? ⟨b, o, none⟩ = some (.int .i64 v0) ∧ w0.cell? ⟨b, o + 1, none⟩ = some (.int .i64 v1) := by
                obtain ⟨p', c', e', _, h0 | ⟨b', o', hp', hr⟩⟩ := HSL.out
                · simp at h0
                · simp only [Value.slice.injEq] at e'
                  obtain ⟨e3, _, _⟩ := e'
                  rw [hp'] at e3
                  simp only [Option.some.injEq, Addr.mk.injEq, and_true] at e3
                  obtain ⟨rfl, rfl⟩ := e3
                  have := hr.2 0 (by simp)
                  simp only [Nat.zero_mul, Nat.add_zero] at this
                  exact this
              have y0 := (hBwr.cell (p := ⟨b, o, none⟩) (Nat.lt_of_lt_of_le hb1 hw0)).trans ((HW0.out.cell (p := ⟨b, o, none⟩) hb1).trans k0)
              have y1 := (hBwr.cell (p := ⟨b, o + 1, none⟩) (Nat.lt_of_lt_of_le hb1 hw0)).trans ((HW0.out.cell (p := ⟨b, o + 1, none⟩) hb1).trans k1)
              have hlnz : (0 : Int) < (ln : Int) := by omega
              have hNk : ¬ blk = w.heap.size := by omega
              have hNb : ¬ b = w.heap.size := by omega
              have hblr : blk < wr.heap.size := by omega
              have hbr : b < wr.heap.size := by omega
              obtain ⟨hNr, m0, m1, g0, g1⟩ := HTW.out
              have CM : Hid (∀ W, Below wr.heap.size wr W → Calls Tryd.prog 11 #[.slice q m c, .slice q' m' c'] W fun e w' => ∃ u, e = .returned u ∧ (∃ os, OwnE ET w' W.heap.size u os ∧ OutAt (fun g => w0.heap.size ≤ g ∧ g ≤ w.heap.size) w' u.ownBlock os (popH h)) ∧ Below W.heap.size W w') := by
                show ∀ W, _
                intro W hb
                rw [HPO.out.2.2]
                exact binoMeld_ok _ _ _ _ (fun g => w0.heap.size ≤ g ∧ g ≤ w.heap.size) w0 W (HOR.out.below hb).toF (HOP.out.below hb).toF (HW0.out.trans ((HWr.out.trans (hb.mono HWr.out.size)).mono hw0)) (fun g e => e.1) (fun g e => by have e2 := e.2; have := hb.size; omega) HPO.out.1 HPO.out.2.1
              have HEA : Hid (h[atTo h j]? = some (k, (v0, v1) :: l')) := by show _ = _; rw [HAT.out]; exact HE1.out
              clear t0 t1 k0 k1 HOE HOP HOR HTW HT HPO HE1 HAT HIT HSL HLN HLR HMK HBL hBwr HG HA HB
              go_wp2_with fail
              go_region_held3 (fun w' => w'.cell? ⟨blk, off + a * 2 + 1, none⟩ = some (.slice (some ⟨b, o, none⟩) ln c1) ∧ w'.cell? ⟨b, o, none⟩ = some (.int .i64 v0) ∧ w'.cell? ⟨b, o + 1, none⟩ = some (.int .i64 v1)) (first | go_keep | (exact ⟨j0, j1, j2⟩) | (exact ⟨(World.cell?_setCell_other _ _ _ _ (by first | exact addr_ne hNk | exact addr_ne hNb | exact (addr_ne hNk).symm | exact (addr_ne hNb).symm)).trans j0, (World.cell?_setCell_other _ _ _ _ (by first | exact addr_ne hNk | exact addr_ne hNb | exact (addr_ne hNk).symm | exact (addr_ne hNb).symm)).trans j1, (World.cell?_setCell_other _ _ _ _ (by first | exact addr_ne hNk | exact addr_ne hNb | exact (addr_ne hNk).symm | exact (addr_ne hNb).symm)).trans j2⟩) | (exact ⟨(World.cell?_setCell_other _ _ _ _ (by first | exact addr_ne hNk | exact addr_ne hNb | exact (addr_ne hNk).symm | exact (addr_ne hNb).symm)).trans ((World.cell?_setCell_other _ _ _ _ (by first | exact addr_ne hNk | exact addr_ne hNb | exact (addr_ne hNk).symm | exact (addr_ne hNb).symm)).trans j0), (World.cell?_setCell_other _ _ _ _ (by first | exact addr_ne hNk | exact addr_ne hNb | exact (addr_ne hNk).symm | exact (addr_ne hNb).symm)).trans ((World.cell?_setCell_other _ _ _ _ (by first | exact addr_ne hNk | exact addr_ne hNb | exact (addr_ne hNk).symm | exact (addr_ne hNb).symm)).trans j1), (World.cell?_setCell_other _ _ _ _ (by first | exact addr_ne hNk | exact addr_ne hNb | exact (addr_ne hNk).symm | exact (addr_ne hNb).symm)).trans ((World.cell?_setCell_other _ _ _ _ (by first | exact addr_ne hNk | exact addr_ne hNb | exact (addr_ne hNk).symm | exact (addr_ne hNb).symm)).trans j2)⟩)) (first | (go_at_call 11; refine (CM.out _ (below_drewN (Below.refl _ _) 1)).mono ?_; rintro e w2 ⟨u, rfl, hu, hb2'⟩; have hb2 : Below wr.heap.size wr w2 := (below_drewN (Below.refl _ _) 1).trans hb2'; have j0 := (hb2.cell (p := ⟨blk, off + a * 2 + 1, none⟩) hblr).trans x1; have j1 := (hb2.cell (p := ⟨b, o, none⟩) hbr).trans y0; have j2 := (hb2.cell (p := ⟨b, o + 1, none⟩) hbr).trans y1; have n0 := (hb2.cell (p := ⟨w.heap.size, 0, none⟩) hNr).trans m0; have n1 := (hb2.cell (p := ⟨w.heap.size, 1, none⟩) hNr).trans m1; have d0 := (World.frozen?_of_block (a := ⟨w.heap.size, 0, none⟩) (hb2.block _ hNr)).trans g0; have d1 := (World.frozen?_of_block (a := ⟨w.heap.size, 1, none⟩) (hb2.block _ hNr)).trans g1; have hN2 := Nat.lt_of_lt_of_le hNr hb2.size; have HU : Hid (∃ os, OwnE ET w2 wr.heap.size u os ∧ OutAt (fun g => w0.heap.size ≤ g ∧ g ≤ w.heap.size) w2 u.ownBlock os (popH h)) := hu; clear hu hb2'))
              all_goals
                go_wp2
                refine bodyPost_ret (by simp [results, Tryd.results16, go_sem, n0, n1]; try rfl) rfl ?_
                refine ⟨k, (v0, v1), l', _, rfl, HEA.out, ?_, ?_⟩
                · obtain ⟨os, o1, o2⟩ := HU.out
                  exact ⟨os, wr.heap.size, hNr, o1.apart' (by omega) (gb_set (World.grownBy.refl _ _) _ _ _ _), o2.apart' ⟨hw0, Nat.le_refl _⟩ (gb_set (World.grownBy.refl _ _) _ _ _ _)⟩
                · have hb9 := HWr.out.trans (hb2.mono HWr.out.size)
                  exact (hb9.setCell (p := ⟨w.heap.size, 0, none⟩) (Nat.le_refl _) _).setCell (p := ⟨w.heap.size, 1, none⟩) (Nat.le_refl _) _
theorem binoPop_ok (v : Value) (g : List TrL) (w0 w : World) (H : HpAt w0 v (zH g)) (hb : Below w0.heap.size w0 w) (G : OkH g) (hn : g ≠ []) :
    Calls Tryd.prog 16 #[v] w fun e w' => ∃ (r : Nat) (x : Int × Int) (l : List (Int × Int)) (u : Value), e = .returned (.tuple #[.agg #[.int .i64 x.1, .int .i64 x.2], u]) ∧ g[atTo g g.length]? = some (r, x :: l) ∧ LeftAt w0 w w' u (popH g) ∧ Below w.heap.size w w' := by
  have HF := H.toF hb
  obtain ⟨p, c, e⟩ := HF.shape
  subst e
  exact binoPop_some p g.length c g w0 w hb (List.length_pos_iff.2 hn) G.len_le rfl HF G
#print axioms binoPop_ok
end Go.Proofs.YtmkjalpgeljnkaaDoor

/-
  bino.checkRanks: what is wrong with the ranks of a heap, and with how many items there are.
-/
namespace Go.Proofs.YtmkjalpgeljnkaaDoor
open Go.RowKit Go.Sort Go.Proofs

theorem Ranks.says1 {h : List (Int × List (Int × Int))} {i all : Nat} {last r : Int} {l : List (Int × Int)} (H : Ranks h i last all) (hx : h[i]? = some (r, l)) (h1 : r < 0 ∨ 5 < r) : errV (rankE (-1) h) = .iface 56 (.int .i64 1) := by
  rw [H.eq, drop_get hx]; simp only [rankE]; rw [if_pos h1]; rfl
theorem Ranks.says3 {h : List (Int × List (Int × Int))} {i all : Nat} {last r : Int} {l : List (Int × Int)} (H : Ranks h i last all) (hx : h[i]? = some (r, l)) (h1 : ¬ (r < 0 ∨ 5 < r)) (h2 : r ≤ last ∨ l.length ≠ 2 ^ r.toNat) : errV (rankE (-1) h) = .iface 56 (.int .i64 3) := by
  rw [H.eq, drop_get hx]; simp only [rankE]; rw [if_neg h1, if_pos h2]; rfl
set_option maxHeartbeats 16000000 in
set_option maxRecDepth 4000 in
theorem ranks_some (p : Option Addr) (n cap : Nat) (h : List (Int × List (Int × Int))) (w : World) (hn : n ≤ 9223372036854775807) (HN : Hid (h.length = n)) (HA : Hid (HpAt w (.slice p n cap) h)) (HL : Hid (∀ t ∈ h, t.2.length ≤ 9223372036854775807)) :
    Calls Tryd.prog 30 #[.slice p n cap] w fun e w' => e = .returned (errV (rankE (-1) h)) ∧ Below w.heap.size w w' := by
  go_enter Tryd.func30, Tryd.ntmps30
  go_wp2
  go_loopg [3, 8] n (fun gg v3 v8 wr => ∃ (i all : Nat) (last : Int), v3 = .int .i64 last ∧ v8 = .int .i64 i ∧ i ≤ n ∧ n - i ≤ gg ∧ Hid (Ranks h i last all) ∧ Hid (Below w.heap.size w wr))
  case atStart => exact ⟨0, 0, -1, rfl, rfl, Nat.zero_le _, by omega, Ranks.start h, Below.refl _ _⟩
  case round =>
    obtain ⟨i, all, last, rfl, rfl, hin, hg, HR, HB⟩ := hrel
    have hlo := HR.out.low
    have hhi := HR.out.high
    have hB : w.heap.size ≤ wr.heap.size := HB.out.size
    by_cases hlt : i < n
    · have hlz : (i : Int) < (n : Int) := by omega
      obtain ⟨⟨r, l⟩, hx⟩ : ∃ x, h[i]? = some x := ⟨h[i]'(by rw [HN.out]; omega), by simp⟩
      obtain ⟨blk, off, q, c, rfl, hblk, c0, c1, hsl⟩ := HA.out.tree hx
      have hlen : l.length ≤ 9223372036854775807 := HL.out _ (List.mem_of_getElem? hx)
      have t0 := (HB.out.cell (p := ⟨blk, off + i * 2, none⟩) hblk).trans c0
      have t1 := (HB.out.cell (p := ⟨blk, off + i * 2 + 1, none⟩) hblk).trans c1
      have hbw : blk < wr.heap.size := by omega
      obtain ⟨ln, hln⟩ : ∃ m, l.length = m := ⟨_, rfl⟩
      rw [hln] at t1 hlen
      have HX : Hid (h[i]? = some (r, l)) := hx
      have HLN : Hid (l.length = ln) := hln
      have HB' : Hid (∀ o, Below w.heap.size w (wr.alloc o)) := fun o => HB.out.alloc hB o
      clear hx hln c0 c1 hsl
      by_cases h1 : r < 0
      · go_wp2
        go_ret
        exact ⟨congrArg Ending.returned (HR.out.says1 HX.out (Or.inl h1)).symm, HB'.out _⟩
      · by_cases h2 : 5 < r
        · have h3 : (6 : Int) ≤ r := by omega
          go_wp2
          go_ret
          exact ⟨congrArg Ending.returned (HR.out.says1 HX.out (Or.inr h2)).symm, HB'.out _⟩
        · have hr6 : r = 0 ∨ r = 1 ∨ r = 2 ∨ r = 3 ∨ r = 4 ∨ r = 5 := by omega
          rcases hr6 with rfl | rfl | rfl | rfl | rfl | rfl
          · by_cases h3 : (0 : Int) ≤ last
            · have hd : decide ((0 : Int) ≤ last) = true := decide_eq_true h3
              have HE : Hid (errV (rankE (-1) h) = .iface 56 (.int .i64 3)) := HR.out.says3 HX.out (by omega) (Or.inl h3)
              go_wp2_with fail
              go_quiet (fail)
              go_wp2
              go_ret
              exact ⟨congrArg Ending.returned HE.out.symm, below_drewN (HB'.out _) nq⟩
            · have hd : decide ((0 : Int) ≤ last) = false := decide_eq_false h3
              by_cases h4 : ln = 1
              · subst h4
                have HR' : Hid (Ranks h (i + 1) 0 (all + l.length)) := HR.out.step HX.out (by omega) (fun e => e.elim (fun a => h3 a) (fun a => a HLN.out))
                go_wp2_with fail
                go_quiet (fail)
                go_wp2
                go_roundg (n - (i + 1))
                case measure => omega
                case rel => exact ⟨i + 1, _, 0, rfl, by go_num, by omega, Nat.le_refl _, HR', below_drewN (HB'.out _) nq⟩
              · have hne : ((ln : Int) != 1) = true := by rw [bne_iff_ne]; omega
                have HE : Hid (errV (rankE (-1) h) = .iface 56 (.int .i64 3)) := HR.out.says3 HX.out (by omega) (Or.inr (fun e => h4 (by rw [← HLN.out]; exact e)))
                go_wp2_with fail
                go_quiet (fail)
                go_wp2
                go_ret
                exact ⟨congrArg Ending.returned HE.out.symm, below_drewN (HB'.out _) nq⟩
          · by_cases h3 : (1 : Int) ≤ last
            · have hd : decide ((1 : Int) ≤ last) = true := decide_eq_true h3
              have HE : Hid (errV (rankE (-1) h) = .iface 56 (.int .i64 3)) := HR.out.says3 HX.out (by omega) (Or.inl h3)
              go_wp2_with fail
              go_quiet (fail)
              go_wp2
              go_ret
              exact ⟨congrArg Ending.returned HE.out.symm, below_drewN (HB'.out _) nq⟩
            · have hd : decide ((1 : Int) ≤ last) = false := decide_eq_false h3
              by_cases h4 : ln = 2
              · subst h4
                have HR' : Hid (Ranks h (i + 1) 1 (all + l.length)) := HR.out.step HX.out (by omega) (fun e => e.elim (fun a => h3 a) (fun a => a HLN.out))
                go_wp2_with fail
                go_quiet (fail)
                go_wp2
                go_roundg (n - (i + 1))
                case measure => omega
                case rel => exact ⟨i + 1, _, 1, rfl, by go_num, by omega, Nat.le_refl _, HR', below_drewN (HB'.out _) nq⟩
              · have hne : ((ln : Int) != 2) = true := by rw [bne_iff_ne]; omega
                have HE : Hid (errV (rankE (-1) h) = .iface 56 (.int .i64 3)) := HR.out.says3 HX.out (by omega) (Or.inr (fun e => h4 (by rw [← HLN.out]; exact e)))
                go_wp2_with fail
                go_quiet (fail)
                go_wp2
                go_ret
                exact ⟨congrArg Ending.returned HE.out.symm, below_drewN (HB'.out _) nq⟩
          · by_cases h3 : (2 : Int) ≤ last
            · have hd : decide ((2 : Int) ≤ last) = true := decide_eq_true h3
              have HE : Hid (errV (rankE (-1) h) = .iface 56 (.int .i64 3)) := HR.out.says3 HX.out (by omega) (Or.inl h3)
              go_wp2_with fail
              go_quiet (fail)
              go_wp2
              go_ret
              exact ⟨congrArg Ending.returned HE.out.symm, below_drewN (HB'.out _) nq⟩
            · have hd : decide ((2 : Int) ≤ last) = false := decide_eq_false h3
              by_cases h4 : ln = 4
              · subst h4
                have HR' : Hid (Ranks h (i + 1) 2 (all + l.length)) := HR.out.step HX.out (by omega) (fun e => e.elim (fun a => h3 a) (fun a => a HLN.out))
                go_wp2_with fail
                go_quiet (fail)
                go_wp2
                go_roundg (n - (i + 1))
                case measure => omega
                case rel => exact ⟨i + 1, _, 2, rfl, by go_num, by omega, Nat.le_refl _, HR', below_drewN (HB'.out _) nq⟩
              · have hne : ((ln : Int) != 4) = true := by rw [bne_iff_ne]; omega
                have HE : Hid (errV (rankE (-1) h) = .iface 56 (.int .i64 3)) := HR.out.says3 HX.out (by omega) (Or.inr (fun e => h4 (by rw [← HLN.out]; exact e)))
                go_wp2_with fail
                go_quiet (fail)
                go_wp2
                go_ret
                exact ⟨congrArg Ending.returned HE.out.symm, below_drewN (HB'.out _) nq⟩
          · by_cases h3 : (3 : Int) ≤ last
            · have hd : decide ((3 : Int) ≤ last) = true := decide_eq_true h3
              have HE : Hid (errV (rankE (-1) h) = .iface 56 (.int .i64 3)) := HR.out.says3 HX.out (by omega) (Or.inl h3)
              go_wp2_with fail
              go_quiet (fail)
              go_wp2
              go_ret
              exact ⟨congrArg Ending.returned HE.out.symm, below_drewN (HB'.out _) nq⟩
            · have hd : decide ((3 : Int) ≤ last) = false := decide_eq_false h3
              by_cases h4 : ln = 8
              · subst h4
                have HR' : Hid (Ranks h (i + 1) 3 (all + l.length)) := HR.out.step HX.out (by omega) (fun e => e.elim (fun a => h3 a) (fun a => a HLN.out))
                go_wp2_with fail
                go_quiet (fail)
                go_wp2
                go_roundg (n - (i + 1))
                case measure => omega
                case rel => exact ⟨i + 1, _, 3, rfl, by go_num, by omega, Nat.le_refl _, HR', below_drewN (HB'.out _) nq⟩
              · have hne : ((ln : Int) != 8) = true := by rw [bne_iff_ne]; omega
                have HE : Hid (errV (rankE (-1) h) = .iface 56 (.int .i64 3)) := HR.out.says3 HX.out (by omega) (Or.inr (fun e => h4 (by rw [← HLN.out]; exact e)))
                go_wp2_with fail
                go_quiet (fail)
                go_wp2
                go_ret
                exact ⟨congrArg Ending.returned HE.out.symm, below_drewN (HB'.out _) nq⟩
          · by_cases h3 : (4 : Int) ≤ last
            · have hd : decide ((4 : Int) ≤ last) = true := decide_eq_true h3
              have HE : Hid (errV (rankE (-1) h) = .iface 56 (.int .i64 3)) := HR.out.says3 HX.out (by omega) (Or.inl h3)
              go_wp2_with fail
              go_quiet (fail)
              go_wp2
              go_ret
              exact ⟨congrArg Ending.returned HE.out.symm, below_drewN (HB'.out _) nq⟩
            · have hd : decide ((4 : Int) ≤ last) = false := decide_eq_false h3
              by_cases h4 : ln = 16
              · subst h4
                have HR' : Hid (Ranks h (i + 1) 4 (all + l.length)) := HR.out.step HX.out (by omega) (fun e => e.elim (fun a => h3 a) (fun a => a HLN.out))
                go_wp2_with fail
                go_quiet (fail)
                go_wp2
                go_roundg (n - (i + 1))
                case measure => omega
                case rel => exact ⟨i + 1, _, 4, rfl, by go_num, by omega, Nat.le_refl _, HR', below_drewN (HB'.out _) nq⟩
              · have hne : ((ln : Int) != 16) = true := by rw [bne_iff_ne]; omega
                have HE : Hid (errV (rankE (-1) h) = .iface 56 (.int .i64 3)) := HR.out.says3 HX.out (by omega) (Or.inr (fun e => h4 (by rw [← HLN.out]; exact e)))
                go_wp2_with fail
                go_quiet (fail)
                go_wp2
                go_ret
                exact ⟨congrArg Ending.returned HE.out.symm, below_drewN (HB'.out _) nq⟩
          · by_cases h3 : (5 : Int) ≤ last
            · have hd : decide ((5 : Int) ≤ last) = true := decide_eq_true h3
              have HE : Hid (errV (rankE (-1) h) = .iface 56 (.int .i64 3)) := HR.out.says3 HX.out (by omega) (Or.inl h3)
              go_wp2_with fail
              go_quiet (fail)
              go_wp2
              go_ret
              exact ⟨congrArg Ending.returned HE.out.symm, below_drewN (HB'.out _) nq⟩
            · have hd : decide ((5 : Int) ≤ last) = false := decide_eq_false h3
              by_cases h4 : ln = 32
              · subst h4
                have HR' : Hid (Ranks h (i + 1) 5 (all + l.length)) := HR.out.step HX.out (by omega) (fun e => e.elim (fun a => h3 a) (fun a => a HLN.out))
                go_wp2_with fail
                go_quiet (fail)
                go_wp2
                go_roundg (n - (i + 1))
                case measure => omega
                case rel => exact ⟨i + 1, _, 5, rfl, by go_num, by omega, Nat.le_refl _, HR', below_drewN (HB'.out _) nq⟩
              · have hne : ((ln : Int) != 32) = true := by rw [bne_iff_ne]; omega
                have HE : Hid (errV (rankE (-1) h) = .iface 56 (.int .i64 3)) := HR.out.says3 HX.out (by omega) (Or.inr (fun e => h4 (by rw [← HLN.out]; exact e)))
                go_wp2_with fail
                go_quiet (fail)
                go_wp2
                go_ret
                exact ⟨congrArg Ending.returned HE.out.symm, below_drewN (HB'.out _) nq⟩
    · obtain rfl : i = n := by omega
      have HE : Hid (errV (rankE (-1) h) = .nilIface) := by show _ = _; have := HR.out; rw [← HN.out] at this; rw [this.ok.1]; rfl
      go_wp2
      go_ret
      exact ⟨congrArg Ending.returned HE.out.symm, HB.out⟩
#print axioms ranks_some
end Go.Proofs.YtmkjalpgeljnkaaDoor

/-
  bino.size: how many items there are at all ranks.
-/
namespace Go.Proofs.YtmkjalpgeljnkaaDoor
open Go.RowKit Go.Sort Go.Proofs

theorem int_eq {a b : Int} (h : a = b) : Value.int .i64 a = .int .i64 b := by rw [h]
theorem ix0 (s0 s1 s2 s3 s4 s5 : SlV) (w : World) : (Instr.index 62 (.agg #[.slice s0.1 s0.2.1 s0.2.2, .slice s1.1 s1.2.1 s1.2.2, .slice s2.1 s2.2.1 s2.2.2, .slice s3.1 s3.2.1 s3.2.2, .slice s4.1 s4.2.1 s4.2.2, .slice s5.1 s5.2.1 s5.2.2]) (.int .i64 0)).run Tryd.prog w = .ok (.slice s0.1 s0.2.1 s0.2.2) w := by kernel_rfl
theorem ix1 (s0 s1 s2 s3 s4 s5 : SlV) (w : World) : (Instr.index 62 (.agg #[.slice s0.1 s0.2.1 s0.2.2, .slice s1.1 s1.2.1 s1.2.2, .slice s2.1 s2.2.1 s2.2.2, .slice s3.1 s3.2.1 s3.2.2, .slice s4.1 s4.2.1 s4.2.2, .slice s5.1 s5.2.1 s5.2.2]) (.int .i64 1)).run Tryd.prog w = .ok (.slice s1.1 s1.2.1 s1.2.2) w := by kernel_rfl
theorem ix2 (s0 s1 s2 s3 s4 s5 : SlV) (w : World) : (Instr.index 62 (.agg #[.slice s0.1 s0.2.1 s0.2.2, .slice s1.1 s1.2.1 s1.2.2, .slice s2.1 s2.2.1 s2.2.2, .slice s3.1 s3.2.1 s3.2.2, .slice s4.1 s4.2.1 s4.2.2, .slice s5.1 s5.2.1 s5.2.2]) (.int .i64 2)).run Tryd.prog w = .ok (.slice s2.1 s2.2.1 s2.2.2) w := by kernel_rfl
theorem ix3 (s0 s1 s2 s3 s4 s5 : SlV) (w : World) : (Instr.index 62 (.agg #[.slice s0.1 s0.2.1 s0.2.2, .slice s1.1 s1.2.1 s1.2.2, .slice s2.1 s2.2.1 s2.2.2, .slice s3.1 s3.2.1 s3.2.2, .slice s4.1 s4.2.1 s4.2.2, .slice s5.1 s5.2.1 s5.2.2]) (.int .i64 3)).run Tryd.prog w = .ok (.slice s3.1 s3.2.1 s3.2.2) w := by kernel_rfl
theorem ix4 (s0 s1 s2 s3 s4 s5 : SlV) (w : World) : (Instr.index 62 (.agg #[.slice s0.1 s0.2.1 s0.2.2, .slice s1.1 s1.2.1 s1.2.2, .slice s2.1 s2.2.1 s2.2.2, .slice s3.1 s3.2.1 s3.2.2, .slice s4.1 s4.2.1 s4.2.2, .slice s5.1 s5.2.1 s5.2.2]) (.int .i64 4)).run Tryd.prog w = .ok (.slice s4.1 s4.2.1 s4.2.2) w := by kernel_rfl
theorem ix5 (s0 s1 s2 s3 s4 s5 : SlV) (w : World) : (Instr.index 62 (.agg #[.slice s0.1 s0.2.1 s0.2.2, .slice s1.1 s1.2.1 s1.2.2, .slice s2.1 s2.2.1 s2.2.2, .slice s3.1 s3.2.1 s3.2.2, .slice s4.1 s4.2.1 s4.2.2, .slice s5.1 s5.2.1 s5.2.2]) (.int .i64 5)).run Tryd.prog w = .ok (.slice s5.1 s5.2.1 s5.2.2) w := by kernel_rfl
theorem ixk (s0 s1 s2 s3 s4 s5 : SlV) (k : Nat) (s : SlV) (h : [s0, s1, s2, s3, s4, s5][k]? = some s) (w : World) : (Instr.index 62 (.agg #[.slice s0.1 s0.2.1 s0.2.2, .slice s1.1 s1.2.1 s1.2.2, .slice s2.1 s2.2.1 s2.2.2, .slice s3.1 s3.2.1 s3.2.2, .slice s4.1 s4.2.1 s4.2.2, .slice s5.1 s5.2.1 s5.2.2]) (.int .i64 (k : Int))).run Tryd.prog w = .ok (.slice s.1 s.2.1 s.2.2) w := by
  match k, h with
  | 0, h => cases h; exact ix0 ..
  | 1, h => cases h; exact ix1 ..
  | 2, h => cases h; exact ix2 ..
  | 3, h => cases h; exact ix3 ..
  | 4, h => cases h; exact ix4 ..
  | 5, h => cases h; exact ix5 ..
  | k + 6, h => simp at h
set_option maxHeartbeats 4000000 in
set_option maxRecDepth 4000 in
theorem dsize_some (s0 s1 s2 s3 s4 s5 : SlV) (w : World) (h0 : s0.2.1 ≤ 1000) (h1 : s1.2.1 ≤ 1000) (h2 : s2.2.1 ≤ 1000) (h3 : s3.2.1 ≤ 1000) (h4 : s4.2.1 ≤ 1000) (h5 : s5.2.1 ≤ 1000) :
    Calls Tryd.prog 35 #[.agg #[.slice s0.1 s0.2.1 s0.2.2, .slice s1.1 s1.2.1 s1.2.2, .slice s2.1 s2.2.1 s2.2.2, .slice s3.1 s3.2.1 s3.2.2, .slice s4.1 s4.2.1 s4.2.2, .slice s5.1 s5.2.1 s5.2.2]] w fun e w' => e = .returned (.int .i64 ((s0.2.1 : Int) + s1.2.1 + s2.2.1 + s3.2.1 + s4.2.1 + s5.2.1)) ∧ Below w.heap.size w w' := by
  have j0 := ix0 s0 s1 s2 s3 s4 s5
  have j1 := ix1 s0 s1 s2 s3 s4 s5
  have j2 := ix2 s0 s1 s2 s3 s4 s5
  have j3 := ix3 s0 s1 s2 s3 s4 s5
  have j4 := ix4 s0 s1 s2 s3 s4 s5
  have j5 := ix5 s0 s1 s2 s3 s4 s5
  go_enter Tryd.func35, Tryd.ntmps35
  go_wp2
  have HB : Hid (Below w.heap.size w (w.alloc (.cells #[.slice s0.1 s0.2.1 s0.2.2, .slice s1.1 s1.2.1 s1.2.2, .slice s2.1 s2.2.1 s2.2.2, .slice s3.1 s3.2.1 s3.2.2, .slice s4.1 s4.2.1 s4.2.2, .slice s5.1 s5.2.1 s5.2.2] 62))) := (Below.refl _ _).alloc (Nat.le_refl _) _
  go_loop [3, 7] (fun t i => ∃ k : Nat, k ≤ 6 ∧ i = .int .i64 k ∧ t = .int .i64 (([(s0.2.1 : Int), s1.2.1, s2.2.1, s3.2.1, s4.2.1, s5.2.1].take k).sum)) (fun _ i => 6 - (intOf i).toNat)
  case atStart => exact ⟨0, Nat.zero_le _, rfl, rfl⟩
  case round =>
    obtain ⟨k, hk, rfl, rfl⟩ := hrel
    have hk7 : k = 0 ∨ k = 1 ∨ k = 2 ∨ k = 3 ∨ k = 4 ∨ k = 5 ∨ k = 6 := by omega
    rcases hk7 with rfl | rfl | rfl | rfl | rfl | rfl | rfl
    all_goals simp only [List.take_zero, List.take_succ_cons, List.sum_cons, List.sum_nil, Int.add_zero]
    · go_wp2
      exact ⟨⟨1, by omega, rfl, int_eq (by simp only [List.take_succ_cons, List.take_zero, List.sum_cons, List.sum_nil]; omega)⟩, by simp [intOf]⟩
    · go_wp2
      exact ⟨⟨2, by omega, rfl, int_eq (by simp only [List.take_succ_cons, List.take_zero, List.sum_cons, List.sum_nil]; omega)⟩, by simp [intOf]⟩
    · go_wp2
      exact ⟨⟨3, by omega, rfl, int_eq (by simp only [List.take_succ_cons, List.take_zero, List.sum_cons, List.sum_nil]; omega)⟩, by simp [intOf]⟩
    · go_wp2
      exact ⟨⟨4, by omega, rfl, int_eq (by simp only [List.take_succ_cons, List.take_zero, List.sum_cons, List.sum_nil]; omega)⟩, by simp [intOf]⟩
    · go_wp2
      exact ⟨⟨5, by omega, rfl, int_eq (by simp only [List.take_succ_cons, List.take_zero, List.sum_cons, List.sum_nil]; omega)⟩, by simp [intOf]⟩
    · go_wp2
      exact ⟨⟨6, by omega, rfl, int_eq (by simp only [List.take_succ_cons, List.take_zero, List.sum_cons, List.sum_nil]; omega)⟩, by simp [intOf]⟩
    · go_wp2
      go_ret
      exact ⟨congrArg Ending.returned (int_eq (by omega)), HB.out⟩
theorem Sl.count {w : World} {p : Option Addr} {n c : Nat} {l : List (Int × Int)} (h : Sl w (.slice p n c) l.toArray) : n = l.length := by
  obtain ⟨p', c', e, _⟩ := h
  simp only [Value.slice.injEq, List.size_toArray] at e
  exact e.2.1
theorem dsize_any (d : List SlV) (f : Nat → List (Int × Int)) (w0 w : World) (h : DgAt w0 d f) (hf : ∀ j, j < 6 → (f j).length ≤ 1000) :
    Calls Tryd.prog 35 #[agV d] w fun e w' => e = .returned (.int .i64 ((catTo f 6 0).length : Nat)) ∧ Below w.heap.size w w' := by
  obtain ⟨s0, s1, s2, s3, s4, s5, rfl⟩ := six h.1
  obtain ⟨_, e0, h0⟩ := h.2 0 (by omega)
  obtain ⟨_, e1, h1⟩ := h.2 1 (by omega)
  obtain ⟨_, e2, h2⟩ := h.2 2 (by omega)
  obtain ⟨_, e3, h3⟩ := h.2 3 (by omega)
  obtain ⟨_, e4, h4⟩ := h.2 4 (by omega)
  obtain ⟨_, e5, h5⟩ := h.2 5 (by omega)
  cases e0; cases e1; cases e2; cases e3; cases e4; cases e5
  have k0 := hf 0 (by omega)
  have k1 := hf 1 (by omega)
  have k2 := hf 2 (by omega)
  have k3 := hf 3 (by omega)
  have k4 := hf 4 (by omega)
  have k5 := hf 5 (by omega)
  rw [← h0.count] at k0
  rw [← h1.count] at k1
  rw [← h2.count] at k2
  rw [← h3.count] at k3
  rw [← h4.count] at k4
  rw [← h5.count] at k5
  refine (dsize_some s0 s1 s2 s3 s4 s5 w k0 k1 k2 k3 k4 k5).mono fun e w' ⟨a, b⟩ => ⟨?_, b⟩
  rw [a]
  refine congrArg Ending.returned (int_eq ?_)
  simp only [catTo, List.length_append, List.length_nil]
  rw [← h0.count, ← h1.count, ← h2.count, ← h3.count, ← h4.count, ← h5.count]
  omega
#print axioms dsize_any
end Go.Proofs.YtmkjalpgeljnkaaDoor

/-
  bino.falls: whether a key of a tree is less than that of the root above it.
-/
namespace Go.Proofs.YtmkjalpgeljnkaaDoor
open Go.RowKit Go.Sort Go.Proofs

theorem Kids.join {key : Nat → Int} : ∀ (r root from_ : Nat), (∀ i, i < r → Kids key i (from_ + (2 ^ r - 2 ^ (i + 1))) (from_ + (2 ^ r - 2 ^ (i + 1)) + 1) ∧ key root ≤ key (from_ + (2 ^ r - 2 ^ (i + 1)))) → Kids key r root from_
  | 0, _, _, _ => trivial
  | r + 1, root, from_, h => by
    have hs : 2 ^ (r + 1) = 2 ^ r + 2 ^ r := by rw [Nat.pow_succ]; omega
    obtain ⟨h1, h2⟩ := h r (Nat.lt_succ_self r)
    rw [Nat.sub_self, Nat.add_zero] at h1 h2
    refine ⟨h2, h1, Kids.join r root (from_ + 2 ^ r) fun i hi => ?_⟩
    have hle : 2 ^ (i + 1) ≤ 2 ^ r := Nat.pow_le_pow_right (by omega) hi
    have e : from_ + 2 ^ r + (2 ^ r - 2 ^ (i + 1)) = from_ + (2 ^ (r + 1) - 2 ^ (i + 1)) := by
      rw [hs]
      generalize 2 ^ r = A at hle ⊢
      generalize 2 ^ (i + 1) = B at hle ⊢
      omega
    rw [e]
    exact h i (by omega)
theorem partD_key {r : Nat} {l : List (Int × Int)} {j t : Nat} (hj : j < r) (ht : t < 2 ^ j) : keyL (partD r l j) t = keyL l (1 + (2 ^ r - 2 ^ (j + 1)) + t) := by
  unfold partD keyL
  rw [if_pos hj, List.getElem?_take, if_pos ht, List.getElem?_drop]
theorem partD_len {r : Nat} {l : List (Int × Int)} {j : Nat} (hl : l.length = 2 ^ r) (hj : j < r) : (partD r l j).length = 2 ^ j := by
  have hs : 2 ^ (j + 1) = 2 ^ j + 2 ^ j := by rw [Nat.pow_succ]; omega
  have hle : 2 ^ (j + 1) ≤ 2 ^ r := Nat.pow_le_pow_right (by omega) hj
  have hp := two_pos j
  unfold partD
  rw [if_pos hj, List.length_take, List.length_drop, hl]
  omega
/-- A tree is one just if the trees below its root are, and none has a lesser root. -/
theorem isT_parts {r : Nat} {l : List (Int × Int)} (hl : l.length = 2 ^ r) : IsT r l ↔ ∀ j, j < r → IsT j (partD r l j) ∧ keyL l 0 ≤ keyL (partD r l j) 0 := by
  constructor
  · intro h j hj
    refine ⟨?_, ?_⟩
    · have := h.sub hj
      unfold partD; rw [if_pos hj]; exact this
    · obtain ⟨_, k2⟩ := Kids.sub r 0 1 h.kids j hj
      rw [partD_key hj (two_pos j), Nat.add_zero]
      exact k2
  · intro h
    refine ⟨hl, Kids.join r 0 1 fun i hi => ?_⟩
    obtain ⟨h1, h2⟩ := h i hi
    rw [partD_key hi (two_pos i), Nat.add_zero] at h2
    refine ⟨?_, h2⟩
    refine Kids.moved (key := keyL (partD r l i)) i 0 1 _ _ ?_ (fun j hj => ?_) h1.kids
    · exact (partD_key hi (two_pos i)).symm
    · rw [partD_key hi (by omega), show 1 + (2 ^ r - 2 ^ (i + 1)) + 1 + j = 1 + (2 ^ r - 2 ^ (i + 1)) + (1 + j) by omega]
/-- Whether a key of a tree falls. -/
def fallB (r : Nat) (l : List (Int × Int)) : Bool := !keysB ((r : Int), l)
theorem fallB_no {r : Nat} {l : List (Int × Int)} (h : IsT r l) : fallB r l = false := by unfold fallB; rw [kids_keysB h]; rfl
theorem fallB_isT {r : Nat} {l : List (Int × Int)} (hl : l.length = 2 ^ r) (h : fallB r l = false) : IsT r l := by
  refine keysB_kids hl ?_
  unfold fallB at h
  cases e : keysB ((r : Int), l)
  · rw [e] at h; cases h
  · rfl
theorem fallB_yes {r : Nat} {l : List (Int × Int)} (hl : l.length = 2 ^ r) (h : ¬ IsT r l) : fallB r l = true := by
  cases e : fallB r l
  · exact absurd (fallB_isT hl e) h
  · rfl

set_option maxHeartbeats 16000000 in
set_option maxRecDepth 4000 in
theorem falls_step (r blk off n cap : Nat) (l : List (Int × Int)) (w : World) (hr : r ≤ 5) (hn0 : 0 < n) (HN : Hid (l.length = n)) (HL : Hid (l.length = 2 ^ r)) (HR : Hid (RdAt w blk off l.toArray)) (hcap : n ≤ cap)
    (IH : Hid (∀ j, j < r → ∀ (v : Value) (l : List (Int × Int)) (w : World), Sl w v l.toArray → l.length = 2 ^ j → Calls Tryd.prog 32 #[v] w fun e w' => e = .returned (.bool (fallB j l)) ∧ Below w.heap.size w w')) :
    Calls Tryd.prog 32 #[.slice (some ⟨blk, off, none⟩) n cap] w fun e w' => e = .returned (.bool (fallB r l)) ∧ Below w.heap.size w w' := by
  have hz0 : (0 : Int) < (n : Int) := by omega
  have hs : Sl w (.slice (some ⟨blk, off, none⟩) n cap) l.toArray := by
    have := Sl.of_rd (cap := cap) HR.out (by rw [List.size_toArray, HN.out]; exact hcap)
    rw [List.size_toArray, HN.out] at this; exact this
  have cB := below_any _ r l w hs hr HL.out
  have k0 : w.cell? ⟨blk, off, none⟩ = some (.int .i64 (keyL l 0)) := by
    have h1 := (HR.out.2 0 (by rw [List.size_toArray, HN.out]; exact hn0)).1
    simp only [Nat.zero_mul, Nat.add_zero] at h1
    rw [h1, keyL_arr (by rw [HN.out]; exact hn0)]
  have hbw : blk < w.heap.size := HR.out.1
  clear hs
  generalize hkr : keyL l 0 = kr at k0
  have HKR : Hid (keyL l 0 = kr) := hkr
  clear hkr
  go_enter Tryd.func32, Tryd.ntmps32
  go_wp2_with fail
  refine cB.mono ?_
  rintro e w1 ⟨d, he, hd, hb1⟩
  obtain ⟨s0, s1, s2, s3, s4, s5, rfl⟩ := six hd.1
  have he' : e = .returned (.agg #[.slice s0.1 s0.2.1 s0.2.2, .slice s1.1 s1.2.1 s1.2.2, .slice s2.1 s2.2.1 s2.2.2, .slice s3.1 s3.2.1 s3.2.2, .slice s4.1 s4.2.1 s4.2.2, .slice s5.1 s5.2.1 s5.2.2]) := he
  subst he'
  have HD : Hid (DgAt w [s0, s1, s2, s3, s4, s5] (partD r l)) := hd
  clear he hd cB
  go_wp2
  go_loopg [7] 6 (fun gg v7 wr => ∃ k : Nat, v7 = .int .i64 k ∧ k ≤ 6 ∧ 6 - k ≤ gg ∧ Hid (∀ j, j < k → j < r → IsT j (partD r l j) ∧ keyL l 0 ≤ keyL (partD r l j) 0) ∧ Hid (Below w.heap.size w wr))
  case atStart => exact ⟨0, rfl, by omega, by omega, (fun j hj => absurd hj (Nat.not_lt_zero _)), hb1⟩
  case round =>
    obtain ⟨k, rfl, hk, hg, HI, HB⟩ := hrel
    have hB : w.heap.size ≤ wr.heap.size := HB.out.size
    by_cases hlt : k < 6
    · have hlz : (k : Int) < 6 := by omega
      obtain ⟨⟨p, m, c⟩, es, hs⟩ := HD.out.2 k hlt
      have jx := ixk s0 s1 s2 s3 s4 s5 k (p, m, c) es
      simp only at jx hs
      clear es
      by_cases hkr : k < r
      · have hlen := partD_len HL.out hkr
        have hpos := two_pos k
        have hm : m = (partD r l k).length := hs.count
        have hm0 : 0 < m := by omega
        obtain ⟨p', c', e', hc', h0 | ⟨b, o, rfl, hrd⟩⟩ := id hs
        · rw [List.size_toArray] at h0; omega
        simp only [Value.slice.injEq] at e'
        obtain ⟨rfl, hm2, rfl⟩ := e'
        clear hm2
        have hbw2 : b < w.heap.size := hrd.1
        have q0 : w.cell? ⟨b, o, none⟩ = some (.int .i64 (keyL (partD r l k) 0)) := by
          have h1 := (hrd.2 0 (by rw [List.size_toArray]; omega)).1
          simp only [Nat.zero_mul, Nat.add_zero] at h1
          rw [h1, keyL_arr (by omega)]
        have x0 := (HB.out.cell (p := ⟨b, o, none⟩) hbw2).trans q0
        have x1 := (HB.out.cell (p := ⟨blk, off, none⟩) hbw).trans k0
        have hmz : (0 : Int) < (m : Int) := by omega
        have hd1 : decide (0 < m) = true := decide_eq_true hm0
        have hbr : b < wr.heap.size := by omega
        have hblr : blk < wr.heap.size := by omega
        have CF : Hid (∀ W, Below wr.heap.size wr W → Calls Tryd.prog 32 #[.slice (some ⟨b, o, none⟩) m c] W fun e w' => e = .returned (.bool (fallB k (partD r l k))) ∧ Below W.heap.size W w') := fun W hb => IH.out k hkr _ _ W ((hs.below HB.out).below hb) hlen
        generalize hkp : keyL (partD r l k) 0 = kp at q0 x0
        have HKP : Hid (keyL (partD r l k) 0 = kp) := hkp
        have HLN : Hid ((partD r l k).length = 2 ^ k) := hlen
        have HHK : Hid (k < r) := hkr
        clear hkp hlen hpos hm hs hrd q0
        by_cases hless : kp < kr
        · have hd2 : decide (kp < kr) = true := decide_eq_true hless
          have HF : Hid (fallB r l = true) := fallB_yes HL.out (fun hT => by have := ((isT_parts HL.out).1 hT k HHK.out).2; rw [HKR.out, HKP.out] at this; omega)
          go_wp2_with fail
          go_quiet (fail)
          go_wp2
          go_ret
          exact ⟨by rw [HF.out]; rfl, below_drewN HB.out nq⟩
        · have hd2 : decide (kp < kr) = false := decide_eq_false hless
          cases hfb : fallB k (partD r l k) with
          | true =>
            have HFB : Hid (fallB k (partD r l k) = true) := hfb
            have HF : Hid (fallB r l = true) := fallB_yes HL.out (fun hT => by have h1 := ((isT_parts HL.out).1 hT k HHK.out).1; rw [fallB_no h1] at hfb; cases hfb)
            rw [hfb] at CF
            clear hfb
            go_wp2_with fail
            go_region_held3 (fun w' => w'.cell? ⟨b, o, none⟩ = some (.int .i64 kp) ∧ w'.cell? ⟨blk, off, none⟩ = some (.int .i64 kr)) (first | go_keep | (exact ⟨j0, j1⟩)) (first | (go_at_call 32; refine (CF.out _ (below_drewN (Below.refl _ _) 1)).mono ?_; rintro e w2 ⟨rfl, hb2'⟩; have hb2 : Below wr.heap.size wr w2 := (below_drewN (Below.refl _ _) 1).trans hb2'; have j0 := (hb2.cell (p := ⟨b, o, none⟩) hbr).trans x0; have j1 := (hb2.cell (p := ⟨blk, off, none⟩) hblr).trans x1; clear hb2'))
            all_goals
              go_wp2
              go_ret
              exact ⟨by rw [HF.out]; rfl, HB.out.trans (hb2.mono hB)⟩
          | false =>
            have HFB : Hid (fallB k (partD r l k) = false) := hfb
            have HI' : Hid (∀ j, j < k + 1 → j < r → IsT j (partD r l j) ∧ keyL l 0 ≤ keyL (partD r l j) 0) := by
              show ∀ j, _
              intro j hj hjr
              rcases Nat.lt_or_ge j k with a | a
              · exact HI.out j a hjr
              · obtain rfl : j = k := by omega
                exact ⟨fallB_isT HLN.out hfb, by rw [HKR.out, HKP.out]; omega⟩
            rw [hfb] at CF
            clear hfb
            go_wp2_with fail
            go_region_held3 (fun w' => w'.cell? ⟨b, o, none⟩ = some (.int .i64 kp) ∧ w'.cell? ⟨blk, off, none⟩ = some (.int .i64 kr)) (first | go_keep | (exact ⟨j0, j1⟩)) (first | (go_at_call 32; refine (CF.out _ (below_drewN (Below.refl _ _) 1)).mono ?_; rintro e w2 ⟨rfl, hb2'⟩; have hb2 : Below wr.heap.size wr w2 := (below_drewN (Below.refl _ _) 1).trans hb2'; have j0 := (hb2.cell (p := ⟨b, o, none⟩) hbr).trans x0; have j1 := (hb2.cell (p := ⟨blk, off, none⟩) hblr).trans x1; clear hb2'))
            all_goals
              go_wp2
              go_roundg (6 - (k + 1))
              case measure => omega
              case rel => exact ⟨k + 1, by go_num, by omega, Nat.le_refl _, HI', HB.out.trans (hb2.mono hB)⟩
      · have hm : m = 0 := by
          have : m = (partD r l k).length := hs.count
          unfold partD at this; rw [if_neg hkr] at this; exact this
        subst hm
        have HI' : Hid (∀ j, j < k + 1 → j < r → IsT j (partD r l j) ∧ keyL l 0 ≤ keyL (partD r l j) 0) := by
          show ∀ j, _
          intro j hj hjr
          rcases Nat.lt_or_ge j k with a | a
          · exact HI.out j a hjr
          · omega
        clear hs
        go_wp2_with fail
        go_quiet (fail)
        go_wp2
        go_roundg (6 - (k + 1))
        case measure => omega
        case rel => exact ⟨k + 1, by go_num, by omega, Nat.le_refl _, HI', below_drewN HB.out nq⟩
    · obtain rfl : k = 6 := by omega
      have HF : Hid (fallB r l = false) := fallB_no ((isT_parts HL.out).2 fun j hj => HI.out j (by omega) hj)
      go_wp2
      go_ret
      exact ⟨by rw [HF.out]; rfl, HB.out⟩
theorem falls_to : ∀ (m r : Nat), r < m → r ≤ 5 → ∀ (v : Value) (l : List (Int × Int)) (w : World), Sl w v l.toArray → l.length = 2 ^ r → Calls Tryd.prog 32 #[v] w fun e w' => e = .returned (.bool (fallB r l)) ∧ Below w.heap.size w w'
  | 0, r, h, _, _, _, _, _, _ => absurd h (Nat.not_lt_zero _)
  | m + 1, r, h, h5, v, l, w, hs, hl => by
    have hp := two_pos r
    obtain ⟨p, c, rfl, hc, h0 | ⟨blk, off, rfl, hr⟩⟩ := hs
    · rw [List.size_toArray, hl] at h0; omega
    · rw [List.size_toArray] at hc ⊢
      exact falls_step r blk off l.length c l w h5 (by omega) rfl hl hr hc fun j hj v l w a b => falls_to m j (by omega) (by omega) v l w a b
theorem falls_any (r : Nat) (hr : r ≤ 5) (v : Value) (l : List (Int × Int)) (w : World) (hs : Sl w v l.toArray) (hl : l.length = 2 ^ r) : Calls Tryd.prog 32 #[v] w fun e w' => e = .returned (.bool (fallB r l)) ∧ Below w.heap.size w w' := falls_to (r + 1) r (Nat.lt_succ_self r) hr v l w hs hl
#print axioms falls_any
end Go.Proofs.YtmkjalpgeljnkaaDoor

/-
  copy at items; rows of one's own that make and copy lay.
-/
namespace Go.Proofs.YtmkjalpgeljnkaaDoor
open Go.RowKit Go.Sort Go.Proofs

/-! ### copy at elements of k cells -/
theorem run_copyK {P : Program} (w : World) (dT sT ty elem : TypeId) (k b o dLen dCap : Nat) (a : Addr) (sLen sCap : Nat) (cs : List Value)
    (hu : P.underlying dT = some (.slice elem)) (hs : (P.info? elem).map (·.size) = some k) (hn : cs.length = Nat.min sLen dLen * k)
    (hsrc : ∀ j v, cs[j]? = some v → w.cell? (a.add j) = some v) (hc : ∀ j, j < cs.length → (w.cell? ⟨b, o + j, none⟩).isSome = true) (hf : ∀ j, j < cs.length → w.frozen? ⟨b, o + j, none⟩ = false) (h1 : ∀ v ∈ cs, v.oneCell' = true) :
    (Builtin.copy_ #[dT, sT] ty #[.slice (some ⟨b, o, none⟩) dLen dCap, .slice (some a) sLen sCap]).run P w = .ok (goInt (Nat.min sLen dLen)) (w.setCells b o cs) := by
  have hl := run_loadCells_list (P := P) w a cs hsrc
  have hst := run_storeCells_cells (P := P) b o cs 0 w (by simpa using hc) (by simpa using hf) h1
  cases hq : P.info? elem with
  | none => simp [hq] at hs
  | some i =>
    have hi : i.size = k := by simpa [hq] using hs
    simp [Builtin.copy_, run_underlying hu, Builtin.lenOf, Builtin.firstCells, sizeOf, typeInfo, hq, hi, ← hn, hl, hst]
theorem run_copyK_none {P : Program} (w : World) (dT sT ty elem : TypeId) (k : Nat) (d a : Option Addr) (dLen dCap sLen sCap : Nat) (hu : P.underlying dT = some (.slice elem)) (hs : (P.info? elem).map (·.size) = some k) (hn : Nat.min sLen dLen = 0) :
    (Builtin.copy_ #[dT, sT] ty #[.slice d dLen dCap, .slice a sLen sCap]).run P w = .ok (goInt 0) w := by
  cases hq : P.info? elem with
  | none => simp [hq] at hs
  | some i =>
    have hl : ∀ (x : Addr), (loadCells x 0).run P w = .ok #[] w := fun x => by simpa using run_loadCells_list (P := P) w x [] (by simp)
    cases d <;> cases a <;> simp [Builtin.copy_, run_underlying hu, Builtin.lenOf, Builtin.firstCells, sizeOf, typeInfo, hq, hn, storeCells, hl]
theorem wpList_copyK {P : Program} {w : World} {ops : Array Oper} {rest : List Oper} {o : Oper} {a : Act} {Q : Exit → Act → World → Prop} (hgd : o.guard = none) (d s : Operand) (dT sT : TypeId)
    (ho : o.op = .call { callee := .builtin .copy, args := #[d, s], argTypes := #[dT, sT] }) (elem : TypeId) (hu : P.underlying dT = some (.slice elem)) (k : Nat) (hsz : (P.info? elem).map (·.size) = some k)
    (g off dLen dCap : Nat) (ad : Addr) (sLen sCap : Nat) (hd : a.eval d = .slice (some ⟨g, off, none⟩) dLen dCap) (hs : a.eval s = .slice (some ad) sLen sCap)
    (cs : List Value) (hn : cs.length = Nat.min sLen dLen * k)
    (hsrc : ∀ j v, cs[j]? = some v → w.cell? (ad.add j) = some v) (hc : ∀ j, j < cs.length → (w.cell? ⟨g, off + j, none⟩).isSome = true) (hf : ∀ j, j < cs.length → w.frozen? ⟨g, off + j, none⟩ = false) (h1 : ∀ v ∈ cs, v.oneCell' = true)
    (h : wpList P ops Q rest (a.put o.dst (goInt (Nat.min sLen dLen))) (w.setCells g off cs)) : wpList P ops Q (o :: rest) a w := by
  refine wpList_plain hgd fun K hK => ?_
  have hrun := run_copyK (P := P) w dT sT o.type elem k g off dLen dCap ad sLen sCap cs hu hsz hn hsrc hc hf h1
  unfold Oper.wp
  simp [execOp, ho, resolve, invoke, builtin, hd, hs, hrun, Result.andThen]
  exact hK _ _ h
theorem wpList_copyK_none {P : Program} {w : World} {ops : Array Oper} {rest : List Oper} {o : Oper} {a : Act} {Q : Exit → Act → World → Prop} (hgd : o.guard = none) (d s : Operand) (dT sT : TypeId)
    (ho : o.op = .call { callee := .builtin .copy, args := #[d, s], argTypes := #[dT, sT] }) (elem : TypeId) (hu : P.underlying dT = some (.slice elem)) (k : Nat) (hsz : (P.info? elem).map (·.size) = some k)
    (dp sp : Option Addr) (dLen dCap sLen sCap : Nat) (hd : a.eval d = .slice dp dLen dCap) (hs : a.eval s = .slice sp sLen sCap) (hn : Nat.min sLen dLen = 0)
    (h : wpList P ops Q rest (a.put o.dst (goInt 0)) w) : wpList P ops Q (o :: rest) a w := by
  refine wpList_plain hgd fun K hK => ?_
  have hrun := run_copyK_none (P := P) w dT sT o.type elem k dp sp dLen dCap sLen sCap hu hsz hn
  unfold Oper.wp
  simp [execOp, ho, resolve, invoke, builtin, hd, hs, hrun, Result.andThen]
  exact hK _ _ h

/-! ### rows of items, flat -/
theorem flatI_get (xs : Array (Int × Int)) (t : Nat) (h : t < xs.size * 2) : (flatK encI 2 xs)[t]! = if t % 2 = 0 then .int .i64 xs[t / 2]!.1 else .int .i64 xs[t / 2]!.2 := by
  rw [get_flatK _ _ _ _ h]
  unfold encI
  split
  · rename_i e; rw [e]; rfl
  · rename_i e; rw [show t % 2 = 1 by omega]; rfl
theorem RdAt.flat {w : World} {blk off : Nat} {xs : Array (Int × Int)} (h : RdAt w blk off xs) (t : Nat) (ht : t < xs.size * 2) : w.cell? ⟨blk, off + t, none⟩ = some (flatK encI 2 xs)[t]! := by
  rw [flatI_get xs t ht]
  have := h.2 (t / 2) (by omega)
  by_cases c : t % 2 = 0
  · rw [if_pos c, show off + t = off + t / 2 * 2 by omega]; exact this.1
  · rw [if_neg c, show off + t = off + t / 2 * 2 + 1 by omega]; exact this.2
theorem flatI_one (xs : Array (Int × Int)) : ∀ v ∈ (flatK encI 2 xs).toList, v.oneCell' = true := by
  intro v hv
  obtain ⟨t, ht, rfl⟩ := List.getElem_of_mem hv
  have ht' : t < xs.size * 2 := by simpa using ht
  have e : (flatK encI 2 xs).toList[t] = (flatK encI 2 xs)[t]! := by rw [getElem!_pos _ t (by simpa using ht'), Array.getElem_toList]
  rw [e, flatI_get xs t ht']
  split <;> rfl
theorem holdsK_of_copy {w : World} {g : Nat} {xs : Array (Int × Int)} (hc : ∀ j, j < xs.size * 2 → (w.cell? ⟨g, j, none⟩).isSome = true) (hf : ∀ j, j < xs.size * 2 → w.frozen? ⟨g, j, none⟩ = false) :
    HoldsK encI 2 (w.setCells g 0 (flatK encI 2 xs).toList) g 0 xs := by
  intro j hj
  have hj' : j < xs.size * 2 := by simpa using hj
  refine ⟨?_, by rw [World.frozen?_setCells]; simpa using hf j hj'⟩
  have := World.cell?_setCells_in g (flatK encI 2 xs).toList 0 w (fun i hi => by simpa using hc i (by simpa using hi)) j (by simpa using hj')
  rw [this, Array.getElem_toList, getElem!_pos _ j hj]
  rfl
theorem below_setCells {B g : Nat} {w0 : World} (hBg : B ≤ g) : ∀ (vs : List Value) (o : Nat) (w : World), Below B w0 w → Below B w0 (w.setCells g o vs)
  | [], _, _, h => h
  | v :: r, o, w, h => by rw [World.setCells]; exact below_setCells hBg r (o + 1) _ (h.setCell (p := ⟨g, o, none⟩) hBg v)
theorem errV_zero : errV 0 = .nilIface := rfl
theorem errV_pos {k : Nat} (h : k ≠ 0) : errV k = .iface 56 (.int .i64 k) := if_neg h
theorem wrong_le {xs : Array (Int × Int)} (h : wrong xs = 0) : xs.size ≤ 60 := by
  unfold wrong at h
  by_cases c : 60 < xs.size
  · rw [if_pos c] at h; omega
  · omega

theorem info_item : (Tryd.prog.info? 24).map (fun i => (i.zero, i.size, i.bytes)) = some (some (.agg #[.int .i64 0, .int .i64 0]), 2, 16) := by kernel_rfl
theorem size_item : (Tryd.prog.info? 24).map (·.size) = some 2 := by kernel_rfl

theorem owned_cells {w : World} {base n g : Nat} {L : List Value} (h : w.ownsRow base 24 2 (.slice (some ⟨g, 0, none⟩) n n) n L) :
    g < w.heap.size ∧ (∀ j, j < n * 2 → (w.cell? ⟨g, j, none⟩).isSome = true) ∧ ∀ j, j < n * 2 → w.frozen? ⟨g, j, none⟩ = false := by
  obtain ⟨_, ⟨h, _⟩ | ⟨g', cap, cur, e, _, hg, _, _, hs, _⟩⟩ := h
  · cases h
  · simp only [Value.slice.injEq, Option.some.injEq, Addr.mk.injEq] at e
    obtain ⟨⟨rfl, _⟩, _, rfl⟩ := e
    have hlt : g < w.heap.size := (Array.getElem?_eq_some_iff.1 hg).1
    refine ⟨hlt, fun j hj => ?_, fun j hj => ?_⟩
    · simp [World.cell?, hg, show j < cur.size by omega]
    · simp [World.frozen?, hg]


end Go.Proofs.YtmkjalpgeljnkaaDoor

/-
  bino.Check: what is wrong with a heap of trees.
-/
namespace Go.Proofs.YtmkjalpgeljnkaaDoor
open Go.RowKit Go.Sort Go.Proofs

theorem rankE_len : ∀ {h : List (Int × List (Int × Int))} {last : Int}, rankE last h = 0 → last ≤ 5 → (h.length : Int) ≤ 5 - last
  | [], last, _, h5 => by simp; omega
  | (r, l) :: h, last, e, h5 => by
    obtain ⟨h1, _⟩ := rankE_zero e
    have h2 := h1 (r, l) List.mem_cons_self
    simp only at h2
    simp only [rankE] at e
    rw [if_neg (by omega), if_neg (fun q => q.elim (fun a => by omega) (fun a => a h2.2.2.2))] at e
    have := rankE_len e (by omega)
    rw [List.length_cons]
    omega
theorem wrong_small {l : List (Int × Int)} (h : l.length ≤ 60) : wrong l.toArray = if anyOut l.toArray then 1 else 0 := by
  unfold wrong; rw [if_neg (by rw [List.size_toArray]; omega)]
theorem take_all {P : (Int × List (Int × Int)) → Prop} {h : List (Int × List (Int × Int))} {i : Nat} {x : Int × List (Int × Int)} (hx : h[i]? = some x) (ha : ∀ t ∈ h.take i, P t) (hp : P x) : ∀ t ∈ h.take (i + 1), P t := by
  obtain ⟨hi, e⟩ := List.getElem?_eq_some_iff.1 hx
  intro t ht
  rw [List.take_succ_eq_append_getElem hi, e] at ht
  rcases List.mem_append.1 ht with q | q
  · exact ha t q
  · rw [List.mem_singleton.1 q]; exact hp

set_option maxHeartbeats 16000000 in
set_option maxRecDepth 4000 in
theorem dcheck_bad (p : Option Addr) (n cap k : Nat) (h : List (Int × List (Int × Int))) (w : World) (hn : n ≤ 9223372036854775807) (HN : Hid (h.length = n)) (HA : Hid (HpAt w (.slice p n cap) h)) (HL : Hid (∀ t ∈ h, t.2.length ≤ 9223372036854775807)) (h0 : k ≠ 0) (HK : Hid (rankE (-1) h = k)) :
    Calls Tryd.prog 9 #[.slice p n cap] w fun e w' => e = .returned (.iface 56 (.int .i64 k)) ∧ Below w.heap.size w w' := by
  have c1 := ranks_some p n cap h w hn HN HA HL
  rw [HK.out, errV_pos h0] at c1
  go_enter Tryd.func9, Tryd.ntmps9
  go_wp2_with fail
  refine c1.mono ?_
  rintro e w1 ⟨rfl, hb⟩
  go_wp2
  go_ret
  exact ⟨rfl, hb⟩

set_option maxHeartbeats 32000000 in
set_option maxRecDepth 4000 in
theorem dcheck_good (p : Option Addr) (n cap : Nat) (h : List (Int × List (Int × Int))) (w : World) (HN : Hid (h.length = n)) (HA : Hid (HpAt w (.slice p n cap) h)) (HR : Hid (rankE (-1) h = 0)) :
    Calls Tryd.prog 9 #[.slice p n cap] w fun e w' => e = .returned (errV (binoE h)) ∧ Below w.heap.size w w' := by
  have HZ : Hid (∀ t ∈ h, 0 ≤ t.1 ∧ t.1 ≤ 5 ∧ t.2.length = 2 ^ t.1.toNat ∧ t.2.length ≤ 32) := by
    show ∀ t ∈ h, _
    intro t ht
    obtain ⟨_, a, b, c⟩ := (rankE_zero HR.out).1 t ht
    exact ⟨a, b, c, by rw [c]; exact Nat.pow_le_pow_right (show 0 < 2 by omega) (show t.1.toNat ≤ 5 by omega)⟩
  have hn6 : n ≤ 6 := by have := rankE_len HR.out (by omega); rw [HN.out] at this; omega
  have c1 := ranks_some p n cap h w (by omega) HN HA (fun t ht => by have := (HZ.out t ht).2.2.2; omega)
  rw [HR.out, errV_zero] at c1
  go_enter Tryd.func9, Tryd.ntmps9
  go_wp2_with fail
  refine c1.mono ?_
  rintro e w1 ⟨rfl, hb1⟩
  clear c1
  go_wp2
  go_loopg [4, 17] n (fun gg v4 v17 wr => ∃ (i m : Nat), v4 = .int .i64 m ∧ v17 = .int .i64 i ∧ i ≤ n ∧ n - i ≤ gg ∧ m ≤ 32 * i ∧ Hid (m = sizeZ (h.take i)) ∧ Hid (∀ t ∈ h.take i, anyOut t.2.toArray = false) ∧ Hid (Below w.heap.size w wr))
  case atStart => exact ⟨0, 0, rfl, rfl, Nat.zero_le _, by omega, by omega, (show 0 = _ by simp [sizeZ]), (fun t ht => by simp at ht), hb1⟩
  case round =>
    obtain ⟨i, m, rfl, rfl, hin, hg, hm, HM, HO, HB⟩ := hrel
    have hB : w.heap.size ≤ wr.heap.size := HB.out.size
    by_cases hlt : i < n
    · have hlz : (i : Int) < (n : Int) := by omega
      obtain ⟨⟨r, l⟩, hx⟩ : ∃ x, h[i]? = some x := ⟨h[i]'(by rw [HN.out]; omega), by simp⟩
      obtain ⟨blk, off, q, c, rfl, hblk, c0, c1, hsl⟩ := HA.out.tree hx
      have hl32 : l.length ≤ 32 := (HZ.out _ (List.mem_of_getElem? hx)).2.2.2
      have t0 := (HB.out.cell (p := ⟨blk, off + i * 2, none⟩) hblk).trans c0
      have t1 := (HB.out.cell (p := ⟨blk, off + i * 2 + 1, none⟩) hblk).trans c1
      have hbw : blk < wr.heap.size := by omega
      have CC : Hid (∀ W, Below wr.heap.size wr W → Calls Tryd.prog 31 #[.slice q l.length c] W fun e w' => e = .returned (errV (wrong l.toArray)) ∧ Below W.heap.size W w') := fun W hb => check_any _ _ W ((hsl.below HB.out).below hb) (by rw [List.size_toArray]; omega)
      rw [wrong_small (by omega)] at CC
      have HX : Hid (h[i]? = some (r, l)) := hx
      have HBA : Hid (Below wr.heap.size wr (wr.alloc (.cells #[.int .i64 r, .slice q l.length c] 37))) := (Below.refl _ _).alloc (Nat.le_refl _) _
      have HS : Hid (sizeZ (h.take (i + 1)) = m + l.length) := by show _ = _; rw [sizeZ_take_succ hx, ← HM.out]
      cases ho : anyOut l.toArray with
      | true =>
        have HE : Hid (binoE h = 1) := outE_bad HR.out hx ho
        rw [ho] at CC
        simp only [if_true] at CC
        clear hx c0 c1 hsl ho
        generalize l.length = ln at *
        go_wp2_with fail
        refine (CC.out _ HBA.out).mono ?_
        rintro e w2 ⟨rfl, hb2'⟩
        have hb2 := HBA.out.trans (hb2'.mono HBA.out.size)
        have e1 : errV 1 = .iface 56 (.int .i64 1) := rfl
        rw [e1]
        go_wp2
        go_ret
        exact ⟨by rw [HE.out]; rfl, HB.out.trans (hb2.mono hB)⟩
      | false =>
        have HO' : Hid (∀ t ∈ h.take (i + 1), anyOut t.2.toArray = false) := take_all hx HO.out ho
        rw [ho] at CC
        simp only [Bool.false_eq_true, if_false] at CC
        clear hx c0 c1 hsl ho
        generalize l.length = ln at *
        go_wp2_with fail
        refine (CC.out _ HBA.out).mono ?_
        rintro e w2 ⟨rfl, hb2'⟩
        have hb2 := HBA.out.trans (hb2'.mono HBA.out.size)
        have y1 : w2.cell? ⟨wr.heap.size, 1, none⟩ = some (.slice q ln c) := (hb2'.cell (p := ⟨wr.heap.size, 1, none⟩) (by simp)).trans (by simp)
        have e0 : errV 0 = .nilIface := rfl
        have hw : IntKind.i64.wrap ((m : Int) + (ln : Int)) = (m : Int) + (ln : Int) := by rw [IntKind.wrap_i64]; omega
        rw [e0]
        clear hb2'
        go_wp2
        go_roundg (n - (i + 1))
        case measure => omega
        case rel => exact ⟨i + 1, m + ln, by go_num, by go_num, by omega, Nat.le_refl _, by omega, HS.out.symm, HO', HB.out.trans (hb2.mono hB)⟩
    · obtain rfl : i = n := by omega
      have HME : Hid (m = sizeZ h) := by show _ = _; have := HM.out; rw [List.take_of_length_le (by rw [HN.out]; omega)] at this; exact this
      have HOE : Hid (outE h = 0) := outE_good (by have := HO.out; rw [List.take_of_length_le (by rw [HN.out]; omega)] at this; exact this)
      clear HM HO
      by_cases h60 : 60 < m
      · have h60z : (60 : Int) < (m : Int) := by omega
        have HE : Hid (binoE h = 4) := by show _ = _; unfold binoE; rw [if_pos HR.out, if_pos HOE.out, if_pos (by rw [← HME.out]; exact h60)]
        go_wp2
        go_ret
        exact ⟨by rw [HE.out]; rfl, HB.out⟩
      · have h60z : ¬ (60 : Int) < (m : Int) := by omega
        have HSZ : Hid (¬ 60 < sizeZ h) := by show ¬ _; rw [← HME.out]; exact h60
        go_wp2
        go_loopg [38] i (fun gg v38 wr => ∃ j : Nat, v38 = .int .i64 j ∧ j ≤ i ∧ i - j ≤ gg ∧ Hid (∀ t ∈ h.take j, keysB t = true) ∧ Hid (Below w.heap.size w wr))
        case atStart => exact ⟨0, rfl, Nat.zero_le _, by omega, (fun t ht => by simp at ht), HB⟩
        case round =>
          obtain ⟨j, rfl, hjn, hg2, HKS, HB2⟩ := hrel
          have hB2 : w.heap.size ≤ wr.heap.size := HB2.out.size
          by_cases hlt2 : j < i
          · have hlz2 : (j : Int) < (i : Int) := by omega
            obtain ⟨⟨r, l⟩, hx⟩ : ∃ x, h[j]? = some x := ⟨h[j]'(by rw [HN.out]; omega), by simp⟩
            obtain ⟨blk, off, q, c, rfl, hblk, c0, c1, hsl⟩ := HA.out.tree hx
            obtain ⟨hr0, hr5, hlr, hl32⟩ := HZ.out _ (List.mem_of_getElem? hx)
            simp only at hr0 hr5 hlr hl32
            have t0 := (HB2.out.cell (p := ⟨blk, off + j * 2, none⟩) hblk).trans c0
            have t1 := (HB2.out.cell (p := ⟨blk, off + j * 2 + 1, none⟩) hblk).trans c1
            have hbw : blk < wr.heap.size := by omega
            have CF : Hid (∀ W, Below wr.heap.size wr W → Calls Tryd.prog 32 #[.slice q l.length c] W fun e w' => e = .returned (.bool (fallB r.toNat l)) ∧ Below W.heap.size W w') := fun W hb => falls_any r.toNat (by omega) _ l W ((hsl.below HB2.out).below hb) hlr
            have HX : Hid (h[j]? = some (r, l)) := hx
            have HBA : Hid (Below wr.heap.size wr (wr.alloc (.cells #[.int .i64 r, .slice q l.length c] 37))) := (Below.refl _ _).alloc (Nat.le_refl _) _
            have HRZ : Hid (((r.toNat : Nat) : Int) = r) := Int.toNat_of_nonneg hr0
            clear hlr
            cases hf : fallB r.toNat l with
            | true =>
              have HE : Hid (binoE h = 3) := keysE_bad HR.out HOE.out HSZ.out hx (by
                unfold fallB at hf
                rw [HRZ.out] at hf
                cases e : keysB (r, l)
                · rfl
                · rw [e] at hf; cases hf)
              rw [hf] at CF
              clear hx c0 c1 hsl hf
              generalize l.length = ln at *
              go_wp2_with fail
              refine (CF.out _ HBA.out).mono ?_
              rintro e w2 ⟨rfl, hb2'⟩
              have hb2 := HBA.out.trans (hb2'.mono HBA.out.size)
              go_wp2
              go_ret
              exact ⟨by rw [HE.out]; rfl, HB2.out.trans (hb2.mono hB2)⟩
            | false =>
              have HKS' : Hid (∀ t ∈ h.take (j + 1), keysB t = true) := take_all (P := fun t => keysB t = true) hx HKS.out (by
                unfold fallB at hf
                rw [HRZ.out] at hf
                cases e : keysB (r, l)
                · rw [e] at hf; cases hf
                · rfl)
              rw [hf] at CF
              clear hx c0 c1 hsl hf
              generalize l.length = ln at *
              go_wp2_with fail
              refine (CF.out _ HBA.out).mono ?_
              rintro e w2 ⟨rfl, hb2'⟩
              have hb2 := HBA.out.trans (hb2'.mono HBA.out.size)
              go_wp2
              go_roundg (i - (j + 1))
              case measure => omega
              case rel => exact ⟨j + 1, by go_num, by omega, Nat.le_refl _, HKS', HB2.out.trans (hb2.mono hB2)⟩
          · have hlz2 : ¬ (j : Int) < (i : Int) := by omega
            have HE : Hid (binoE h = 0) := binoE_good HR.out HOE.out HSZ.out (by have := HKS.out; rw [List.take_of_length_le (by rw [HN.out]; omega)] at this; exact this)
            go_wp2
            go_ret
            exact ⟨by rw [HE.out]; rfl, HB2.out⟩
theorem dcheck_any (v : Value) (h : List (Int × List (Int × Int))) (w : World) (HA : HpAt w v h) (hn : h.length ≤ 9223372036854775807) (hl : ∀ t ∈ h, t.2.length ≤ 9223372036854775807) :
    Calls Tryd.prog 9 #[v] w fun e w' => e = .returned (errV (binoE h)) ∧ Below w.heap.size w w' := by
  obtain ⟨p, c, rfl⟩ := HA.form
  by_cases h0 : rankE (-1) h = 0
  · exact dcheck_good p _ c h w rfl HA h0
  · have e : binoE h = rankE (-1) h := by unfold binoE; rw [if_neg h0]
    rw [e, errV_pos h0]
    exact dcheck_bad p _ c _ h w hn rfl HA hl h0 rfl
#print axioms dcheck_any
end Go.Proofs.YtmkjalpgeljnkaaDoor

/-
  bino.read: the trees of a heap at their ranks.
-/
namespace Go.Proofs.YtmkjalpgeljnkaaDoor
open Go.RowKit Go.Sort Go.Proofs

set_option maxHeartbeats 4000000 in
set_option maxRecDepth 4000 in
theorem read_some (p : Option Addr) (n cap : Nat) (h : List TrL) (w : World) (hn : n ≤ 100) (HN : Hid (h.length = n)) (HA : Hid (HpF w w (.slice p n cap) h)) (HI : Hid (h.Pairwise (fun a b => a.1 < b.1))) (HR : Hid (∀ t ∈ h, t.1 < 6)) :
    Calls Tryd.prog 34 #[.slice p n cap] w fun e w' => ∃ d, e = .returned (agV d) ∧ DgAt w d (digitH h) ∧ Below w.heap.size w w' := by
  go_enter Tryd.func34, Tryd.ntmps34
  go_wp2
  go_loopg [8] n (fun gg vi wr => ∃ (i : Nat) (d : List SlV), vi = .int .i64 i ∧ i ≤ n ∧ n - i ≤ gg ∧ Hid (WrE ES wr (w.heap.size + 1) 0 d) ∧ Hid (WrE ES wr w.heap.size 0 (List.replicate 6 (none, 0, 0))) ∧ Hid (DgAt w d (digitH (h.take i))) ∧ Hid (Below w.heap.size w wr))
  case atStart => obtain ⟨a1, a2, a3⟩ := new_two w 62; exact ⟨0, _, rfl, Nat.zero_le _, by omega, a1, a2, DgAt.start w, a3⟩
  case round =>
    obtain ⟨i, d, rfl, hin, hg, HW, HO, HD, HB⟩ := hrel
    by_cases hlt : i < n
    · have hlz : (i : Int) < (n : Int) := by omega
      obtain ⟨⟨r, l⟩, hx⟩ : ∃ x, h[i]? = some x := ⟨h[i]'(by rw [HN.out]; omega), by simp⟩
      obtain ⟨blk, off, q, c, rfl, hblk, c0, c1, hsl⟩ := HA.out.tree hx
      have hr6 : r < 6 := HR.out (r, l) (List.mem_of_getElem? hx)
      have hr6z : (r : Int) < 6 := by omega
      have t0 := (HB.out.cell (p := ⟨blk, off + i * 2, none⟩) hblk).trans c0
      have t1 := (HB.out.cell (p := ⟨blk, off + i * 2 + 1, none⟩) hblk).trans c1
      have hB : w.heap.size ≤ wr.heap.size := HB.out.size
      have hbw : blk < wr.heap.size := by omega
      have hlw : w.heap.size + 1 < wr.heap.size := HW.out.lt
      obtain ⟨s0, e0, _⟩ := HD.out.2 r hr6
      obtain ⟨k0, k1⟩ := HW.out.row e0
      have HD' : Hid (DgAt w (d.set r (q, l.length, c)) (digitH (h.take (i + 1)))) := (HD.out.set (r := r) hsl).congr fun j _ => digitH_take HI.out hx j
      have hgs : wr.grownBy (wr.setCell ⟨w.heap.size + 1, r, none⟩ (.slice q l.length c)) (some (w.heap.size + 1)) := gb_setCell wr ⟨w.heap.size + 1, r, none⟩ (.slice q l.length c)
      have HB' : Hid (∀ o, Below w.heap.size w ((wr.setCell ⟨w.heap.size + 1, r, none⟩ (.slice q l.length c)).alloc o)) := fun o => (below_gb HB.out hgs (by omega) hB).alloc (by rw [size_setCell]; exact hB) o
      have HW' : Hid (∀ o, WrE ES ((wr.setCell ⟨w.heap.size + 1, r, none⟩ (.slice q l.length c)).alloc o) (w.heap.size + 1) 0 (d.set r (q, l.length, c))) := fun o => (HW.out.setRow (i := r) (by rw [HD.out.1]; exact hr6) (q, l.length, c)).alloc' o
      have HO' : Hid (∀ o, WrE ES ((wr.setCell ⟨w.heap.size + 1, r, none⟩ (.slice q l.length c)).alloc o) w.heap.size 0 (List.replicate 6 (none, 0, 0))) := fun o => (HO.out.kept hgs (fun e => by have := Option.some.inj e; omega)).alloc' o
      generalize l.length = ln at *
      clear c0 c1 hx hsl e0 hgs HD
      go_wp2
      go_roundg (n - (i + 1))
      case measure => omega
      case rel => exact ⟨i + 1, _, by go_num, by omega, Nat.le_refl _, HW'.out _, HO'.out _, HD', HB'.out _⟩
    · have hlz : ¬ (i : Int) < (n : Int) := by omega
      have HDE : Hid (DgAt w d (digitH h)) := by show DgAt _ _ _; have := HD.out; rw [List.take_of_length_le (by rw [HN.out]; omega)] at this; exact this
      obtain ⟨s0, s1, s2, s3, s4, s5, rfl⟩ := six HD.out.1
      obtain ⟨⟨c0, c1, c2, c3, c4, c5⟩, _⟩ := HW.out.six
      obtain ⟨⟨d0, d1, d2, d3, d4, d5⟩, ⟨f0, f1, f2, f3, f4, f5⟩⟩ := HO.out.six
      have hB : w.heap.size ≤ wr.heap.size := HB.out.size
      clear HD
      go_wp2
      refine bodyPost_ret (by simp [results, Tryd.results34, go_sem, d0, d1, d2, d3, d4, d5]; try rfl) rfl ?_
      exact ⟨_, rfl, HDE.out, below_six HB.out (Nat.le_refl _) _ _ _ _ _ _⟩
theorem read_any (v : Value) (g : List TrL) (w : World) (H : HpAt w v (zH g)) (hg : OkH g) :
    Calls Tryd.prog 34 #[v] w fun e w' => ∃ d, e = .returned (agV d) ∧ DgAt w d (digitH g) ∧ Below w.heap.size w w' := by
  have HF := H.toF (Below.refl _ _)
  obtain ⟨p, c, e⟩ := HF.shape
  subst e
  exact read_some p g.length c g w (by have := hg.len_le; omega) rfl HF hg.isH.rise fun t ht => by have := hg.rank t ht; omega
#print axioms read_any
end Go.Proofs.YtmkjalpgeljnkaaDoor

/-
  bino.linked: one tree of two.
-/
namespace Go.Proofs.YtmkjalpgeljnkaaDoor
open Go.RowKit Go.Sort Go.Proofs

set_option maxHeartbeats 4000000 in
theorem linked_S1 (ba oa na ca bb ob nb cb : Nat) (x0 x1 y0 y1 : Int) (a b : List (Int × Int)) (w : World) (ha60 : na ≤ 1000) (hb60 : nb ≤ 1000) (hna : 0 < na) (hnb : 0 < nb) (hone : cb = 1) (hx : y0 < x0) (HNA : Hid (a.length + 1 = na)) (HNB : Hid (b.length + 1 = nb)) (hca : na ≤ ca) (hcb : nb ≤ cb)
    (HA : Hid (RdAt w ba oa ((x0, x1) :: a).toArray)) (HB : Hid (RdAt w bb ob ((y0, y1) :: b).toArray)) :
    Calls Tryd.prog 55 #[.slice (some ⟨ba, oa, none⟩) na ca, .slice (some ⟨bb, ob, none⟩) nb cb] w fun e w' => ∃ u, e = .returned u ∧ OwnI w' w.heap.size u ((y0, y1) :: (((x0, x1) :: a) ++ b)) ∧ Below w.heap.size w w' := by
  subst hone
  obtain rfl : nb = 1 := by omega
  have hzA : (0 : Int) < (na : Int) := by omega
  have hzB : (0 : Int) < (1 : Int) := by omega
  have hz1 : (1 : Int) ≤ (1 : Int) := by omega
  have hw : IntKind.i64.wrap ((1 : Int) + (na : Int)) = (1 : Int) + (na : Int) := by rw [IntKind.wrap_i64]; omega
  have hd : decide (y0 < x0) = true := decide_eq_true hx
  obtain ⟨i0, hi, hi0, hi1, hi2⟩ := info_parts info_item
  obtain ⟨a0, a1⟩ := HA.out.2 0 (by simp)
  obtain ⟨b0, b1⟩ := HB.out.2 0 (by simp)
  simp only [Nat.zero_mul, Nat.add_zero] at a0 a1 b0 b1
  have a0' : w.cell? ⟨ba, oa, none⟩ = some (.int .i64 x0) := a0
  have a1' : w.cell? ⟨ba, oa + 1, none⟩ = some (.int .i64 x1) := a1
  have b0' : w.cell? ⟨bb, ob, none⟩ = some (.int .i64 y0) := b0
  have b1' : w.cell? ⟨bb, ob + 1, none⟩ = some (.int .i64 y1) := b1
  clear a0 a1 b0 b1
  have HSU : Hid (Sl w (.slice (some ⟨ba, oa, none⟩) na ca) ((x0, x1) :: a).toArray) := by
    show Sl _ _ _; have := Sl.of_rd (cap := ca) HA.out (by rw [List.size_toArray, List.length_cons, HNA.out]; omega); rw [show ((x0, x1) :: a).toArray.size = na by rw [List.size_toArray, List.length_cons]; exact HNA.out] at this; exact this
  have HT : Hid (Sl w (.slice (some ⟨bb, ob, none⟩) 0 0) b.toArray) := Sl.empty w _ _ _ b (by have := HNB.out; omega) (by omega)
  go_enter Tryd.func55, Tryd.ntmps55
  go_wp2_with fail
  go_quiet (fail)
  have hq : Below w.heap.size w (w.drewN nq) := below_drewN (Below.refl _ _) nq
  have hltq : bb < (w.drewN nq).heap.size := HB.out.1
  have k0 : (w.drewN nq).cell? ⟨bb, ob, none⟩ = some (.int .i64 y0) := b0'
  have k1 : (w.drewN nq).cell? ⟨bb, ob + 1, none⟩ = some (.int .i64 y1) := b1'
  have hsq : w.heap.size ≤ (w.drewN nq).heap.size := Nat.le_refl _
  clear a0' a1' b0' b1'
  generalize w.drewN nq = wq at hq k0 k1 hsq hltq ⊢
  go_wp2_with (first | (at_make; refine wpList_make_own _ rfl _ (.tmp 25) 35 rfl w.heap.size 24 i0 (.agg #[.int .i64 0, .int .i64 0]) 2 Tryd.underlying35 hi hi0 hi1 .i64 .i64 _ (1 + na) rfl rfl (by omega) (by rw [hi2]; omega) (by unfold maxLen; omega) hsq ?_; intro w0 hown hgr; have hB0 : Below wq.heap.size wq w0 := (Below.refl _ _).grown hgr (Nat.le_refl _) (fun k e => by cases e); have hb0 : Below w.heap.size w w0 := hq.trans (hB0.mono hsq); have hO0 : OwnI w0 w.heap.size (.slice (some ⟨wq.heap.size, 0, none⟩) 0 (1 + na)) [] := hown; have HO0 : Hid (OwnI w0 w.heap.size (.slice (some ⟨wq.heap.size, 0, none⟩) 0 (1 + na)) []) := hO0; have l0 : w0.cell? ⟨bb, ob, none⟩ = some (.int .i64 y0) := (hB0.cell (p := ⟨bb, ob, none⟩) hltq).trans k0; have l1 : w0.cell? ⟨bb, ob + 1, none⟩ = some (.int .i64 y1) := (hB0.cell (p := ⟨bb, ob + 1, none⟩) hltq).trans k1; have hal : Below w.heap.size w (w0.alloc (.cells #[.int .i64 y0, .int .i64 y1] 24)) := hb0.alloc hb0.size _; clear hown hgr hO0 hB0 k0 k1) | (at_builtin; refine wpList_append_item rfl (.tmp 27) (.tmp 31) rfl w.heap.size _ [] (y0, y1) ⟨w0.heap.size, 0, none⟩ 1 rfl (HO0.out.alloc _) rfl (by simp) (by simp [Addr.add]) (by simp) hal.size ?_; intro v1 w1 hA1 hg1 _; have hb1 : Below w.heap.size w w1 := hal.trans (below_of_grown (HO0.out.alloc _) hg1 (Nat.le_refl _) hal.size); have HA1 : Hid (OwnI w1 w.heap.size v1 ([] ++ [(y0, y1)])) := hA1; clear hA1 hg1) | (at_builtin; refine wpList_append_sl rfl (.tmp 33) (.tmp 34) rfl w.heap.size v1 _ _ ((x0, x1) :: a).toArray rfl rfl HA1.out (HSU.out.below hb1) (by simp; have h1 := HNA.out; have h2 := HNB.out; omega) hb1.size ?_; intro v2 w2 hA2 hg2; have hb2 : Below w.heap.size w w2 := hb1.trans (below_of_grown HA1.out hg2 (Nat.le_refl _) hb1.size); have HA2 : Hid (OwnI w2 w.heap.size v2 (([] ++ [(y0, y1)]) ++ ((x0, x1) :: a).toArray.toList)) := hA2; clear hA2 hg2) | (at_builtin; refine wpList_append_sl rfl (.tmp 36) (.tmp 38) rfl w.heap.size v2 _ _ b.toArray rfl rfl HA2.out (HT.out.below hb2) (by simp; have h1 := HNA.out; have h2 := HNB.out; omega) hb2.size ?_; intro v3 w3 hA3 hg3; have hb3 : Below w.heap.size w w3 := hb2.trans (below_of_grown HA2.out hg3 (Nat.le_refl _) hb2.size); have HA3 : Hid (OwnI w3 w.heap.size v3 ((([] ++ [(y0, y1)]) ++ ((x0, x1) :: a).toArray.toList) ++ b.toArray.toList)) := hA3; clear hA3 hg3))
  go_ret
  exact ⟨_, rfl, by simpa using HA3.out, hb3⟩
set_option maxHeartbeats 4000000 in
theorem linked_S2 (ba oa na ca bb ob nb cb : Nat) (x0 x1 y0 y1 : Int) (a b : List (Int × Int)) (w : World) (ha60 : na ≤ 1000) (hb60 : nb ≤ 1000) (hna : 0 < na) (hnb : 0 < nb) (hone : cb ≠ 1) (hx : y0 < x0) (HNA : Hid (a.length + 1 = na)) (HNB : Hid (b.length + 1 = nb)) (hca : na ≤ ca) (hcb : nb ≤ cb)
    (HA : Hid (RdAt w ba oa ((x0, x1) :: a).toArray)) (HB : Hid (RdAt w bb ob ((y0, y1) :: b).toArray)) :
    Calls Tryd.prog 55 #[.slice (some ⟨ba, oa, none⟩) na ca, .slice (some ⟨bb, ob, none⟩) nb cb] w fun e w' => ∃ u, e = .returned u ∧ OwnI w' w.heap.size u ((y0, y1) :: (((x0, x1) :: a) ++ b)) ∧ Below w.heap.size w w' := by
  have hzA : (0 : Int) < (na : Int) := by omega
  have hzB : (0 : Int) < (nb : Int) := by omega
  have hz1 : (1 : Int) ≤ (nb : Int) := by omega
  have hw : IntKind.i64.wrap ((nb : Int) + (na : Int)) = (nb : Int) + (na : Int) := by rw [IntKind.wrap_i64]; omega
  have hd : decide (y0 < x0) = true := decide_eq_true hx
  obtain ⟨i0, hi, hi0, hi1, hi2⟩ := info_parts info_item
  obtain ⟨a0, a1⟩ := HA.out.2 0 (by simp)
  obtain ⟨b0, b1⟩ := HB.out.2 0 (by simp)
  simp only [Nat.zero_mul, Nat.add_zero] at a0 a1 b0 b1
  have a0' : w.cell? ⟨ba, oa, none⟩ = some (.int .i64 x0) := a0
  have a1' : w.cell? ⟨ba, oa + 1, none⟩ = some (.int .i64 x1) := a1
  have b0' : w.cell? ⟨bb, ob, none⟩ = some (.int .i64 y0) := b0
  have b1' : w.cell? ⟨bb, ob + 1, none⟩ = some (.int .i64 y1) := b1
  clear a0 a1 b0 b1
  have HSU : Hid (Sl w (.slice (some ⟨ba, oa, none⟩) na ca) ((x0, x1) :: a).toArray) := by
    show Sl _ _ _; have := Sl.of_rd (cap := ca) HA.out (by rw [List.size_toArray, List.length_cons, HNA.out]; omega); rw [show ((x0, x1) :: a).toArray.size = na by rw [List.size_toArray, List.length_cons]; exact HNA.out] at this; exact this
  have HT : Hid (Sl w (.slice (some ⟨bb, ob + 2, none⟩) (nb - 1) (cb - 1)) b.toArray) := Sl.tail HB.out HNB.out hcb
  go_enter Tryd.func55, Tryd.ntmps55
  go_wp2_with fail
  go_quiet (fail)
  have hq : Below w.heap.size w (w.drewN nq) := below_drewN (Below.refl _ _) nq
  have hltq : bb < (w.drewN nq).heap.size := HB.out.1
  have k0 : (w.drewN nq).cell? ⟨bb, ob, none⟩ = some (.int .i64 y0) := b0'
  have k1 : (w.drewN nq).cell? ⟨bb, ob + 1, none⟩ = some (.int .i64 y1) := b1'
  have hsq : w.heap.size ≤ (w.drewN nq).heap.size := Nat.le_refl _
  clear a0' a1' b0' b1'
  generalize w.drewN nq = wq at hq k0 k1 hsq hltq ⊢
  go_wp2_with (first | (at_make; refine wpList_make_own _ rfl _ (.tmp 25) 35 rfl w.heap.size 24 i0 (.agg #[.int .i64 0, .int .i64 0]) 2 Tryd.underlying35 hi hi0 hi1 .i64 .i64 _ (nb + na) rfl rfl (by omega) (by rw [hi2]; omega) (by unfold maxLen; omega) hsq ?_; intro w0 hown hgr; have hB0 : Below wq.heap.size wq w0 := (Below.refl _ _).grown hgr (Nat.le_refl _) (fun k e => by cases e); have hb0 : Below w.heap.size w w0 := hq.trans (hB0.mono hsq); have hO0 : OwnI w0 w.heap.size (.slice (some ⟨wq.heap.size, 0, none⟩) 0 (nb + na)) [] := hown; have HO0 : Hid (OwnI w0 w.heap.size (.slice (some ⟨wq.heap.size, 0, none⟩) 0 (nb + na)) []) := hO0; have l0 : w0.cell? ⟨bb, ob, none⟩ = some (.int .i64 y0) := (hB0.cell (p := ⟨bb, ob, none⟩) hltq).trans k0; have l1 : w0.cell? ⟨bb, ob + 1, none⟩ = some (.int .i64 y1) := (hB0.cell (p := ⟨bb, ob + 1, none⟩) hltq).trans k1; have hal : Below w.heap.size w (w0.alloc (.cells #[.int .i64 y0, .int .i64 y1] 24)) := hb0.alloc hb0.size _; clear hown hgr hO0 hB0 k0 k1) | (at_builtin; refine wpList_append_item rfl (.tmp 27) (.tmp 31) rfl w.heap.size _ [] (y0, y1) ⟨w0.heap.size, 0, none⟩ 1 rfl (HO0.out.alloc _) rfl (by simp) (by simp [Addr.add]) (by simp) hal.size ?_; intro v1 w1 hA1 hg1 _; have hb1 : Below w.heap.size w w1 := hal.trans (below_of_grown (HO0.out.alloc _) hg1 (Nat.le_refl _) hal.size); have HA1 : Hid (OwnI w1 w.heap.size v1 ([] ++ [(y0, y1)])) := hA1; clear hA1 hg1) | (at_builtin; refine wpList_append_sl rfl (.tmp 33) (.tmp 34) rfl w.heap.size v1 _ _ ((x0, x1) :: a).toArray rfl rfl HA1.out (HSU.out.below hb1) (by simp; have h1 := HNA.out; have h2 := HNB.out; omega) hb1.size ?_; intro v2 w2 hA2 hg2; have hb2 : Below w.heap.size w w2 := hb1.trans (below_of_grown HA1.out hg2 (Nat.le_refl _) hb1.size); have HA2 : Hid (OwnI w2 w.heap.size v2 (([] ++ [(y0, y1)]) ++ ((x0, x1) :: a).toArray.toList)) := hA2; clear hA2 hg2) | (at_builtin; refine wpList_append_sl rfl (.tmp 36) (.tmp 38) rfl w.heap.size v2 _ _ b.toArray rfl rfl HA2.out (HT.out.below hb2) (by simp; have h1 := HNA.out; have h2 := HNB.out; omega) hb2.size ?_; intro v3 w3 hA3 hg3; have hb3 : Below w.heap.size w w3 := hb2.trans (below_of_grown HA2.out hg3 (Nat.le_refl _) hb2.size); have HA3 : Hid (OwnI w3 w.heap.size v3 ((([] ++ [(y0, y1)]) ++ ((x0, x1) :: a).toArray.toList) ++ b.toArray.toList)) := hA3; clear hA3 hg3))
  go_ret
  exact ⟨_, rfl, by simpa using HA3.out, hb3⟩
set_option maxHeartbeats 4000000 in
theorem linked_F1 (ba oa na ca bb ob nb cb : Nat) (x0 x1 y0 y1 : Int) (a b : List (Int × Int)) (w : World) (ha60 : na ≤ 1000) (hb60 : nb ≤ 1000) (hna : 0 < na) (hnb : 0 < nb) (hone : ca = 1) (hx : ¬ y0 < x0) (HNA : Hid (a.length + 1 = na)) (HNB : Hid (b.length + 1 = nb)) (hca : na ≤ ca) (hcb : nb ≤ cb)
    (HA : Hid (RdAt w ba oa ((x0, x1) :: a).toArray)) (HB : Hid (RdAt w bb ob ((y0, y1) :: b).toArray)) :
    Calls Tryd.prog 55 #[.slice (some ⟨ba, oa, none⟩) na ca, .slice (some ⟨bb, ob, none⟩) nb cb] w fun e w' => ∃ u, e = .returned u ∧ OwnI w' w.heap.size u ((x0, x1) :: (((y0, y1) :: b) ++ a)) ∧ Below w.heap.size w w' := by
  subst hone
  obtain rfl : na = 1 := by omega
  have hzA : (0 : Int) < (1 : Int) := by omega
  have hzB : (0 : Int) < (nb : Int) := by omega
  have hz1 : (1 : Int) ≤ (1 : Int) := by omega
  have hw : IntKind.i64.wrap ((1 : Int) + (nb : Int)) = (1 : Int) + (nb : Int) := by rw [IntKind.wrap_i64]; omega
  have hd : decide (y0 < x0) = false := decide_eq_false hx
  obtain ⟨i0, hi, hi0, hi1, hi2⟩ := info_parts info_item
  obtain ⟨a0, a1⟩ := HA.out.2 0 (by simp)
  obtain ⟨b0, b1⟩ := HB.out.2 0 (by simp)
  simp only [Nat.zero_mul, Nat.add_zero] at a0 a1 b0 b1
  have a0' : w.cell? ⟨ba, oa, none⟩ = some (.int .i64 x0) := a0
  have a1' : w.cell? ⟨ba, oa + 1, none⟩ = some (.int .i64 x1) := a1
  have b0' : w.cell? ⟨bb, ob, none⟩ = some (.int .i64 y0) := b0
  have b1' : w.cell? ⟨bb, ob + 1, none⟩ = some (.int .i64 y1) := b1
  clear a0 a1 b0 b1
  have HSU : Hid (Sl w (.slice (some ⟨bb, ob, none⟩) nb cb) ((y0, y1) :: b).toArray) := by
    show Sl _ _ _; have := Sl.of_rd (cap := cb) HB.out (by rw [List.size_toArray, List.length_cons, HNB.out]; omega); rw [show ((y0, y1) :: b).toArray.size = nb by rw [List.size_toArray, List.length_cons]; exact HNB.out] at this; exact this
  have HT : Hid (Sl w (.slice (some ⟨ba, oa, none⟩) 0 0) a.toArray) := Sl.empty w _ _ _ a (by have := HNA.out; omega) (by omega)
  go_enter Tryd.func55, Tryd.ntmps55
  go_wp2_with fail
  go_quiet (fail)
  have hq : Below w.heap.size w (w.drewN nq) := below_drewN (Below.refl _ _) nq
  have hltq : ba < (w.drewN nq).heap.size := HA.out.1
  have k0 : (w.drewN nq).cell? ⟨ba, oa, none⟩ = some (.int .i64 x0) := a0'
  have k1 : (w.drewN nq).cell? ⟨ba, oa + 1, none⟩ = some (.int .i64 x1) := a1'
  have hsq : w.heap.size ≤ (w.drewN nq).heap.size := Nat.le_refl _
  clear a0' a1' b0' b1'
  generalize w.drewN nq = wq at hq k0 k1 hsq hltq ⊢
  go_wp2_with (first | (at_make; refine wpList_make_own _ rfl _ (.tmp 25) 35 rfl w.heap.size 24 i0 (.agg #[.int .i64 0, .int .i64 0]) 2 Tryd.underlying35 hi hi0 hi1 .i64 .i64 _ (1 + nb) rfl rfl (by omega) (by rw [hi2]; omega) (by unfold maxLen; omega) hsq ?_; intro w0 hown hgr; have hB0 : Below wq.heap.size wq w0 := (Below.refl _ _).grown hgr (Nat.le_refl _) (fun k e => by cases e); have hb0 : Below w.heap.size w w0 := hq.trans (hB0.mono hsq); have hO0 : OwnI w0 w.heap.size (.slice (some ⟨wq.heap.size, 0, none⟩) 0 (1 + nb)) [] := hown; have HO0 : Hid (OwnI w0 w.heap.size (.slice (some ⟨wq.heap.size, 0, none⟩) 0 (1 + nb)) []) := hO0; have l0 : w0.cell? ⟨ba, oa, none⟩ = some (.int .i64 x0) := (hB0.cell (p := ⟨ba, oa, none⟩) hltq).trans k0; have l1 : w0.cell? ⟨ba, oa + 1, none⟩ = some (.int .i64 x1) := (hB0.cell (p := ⟨ba, oa + 1, none⟩) hltq).trans k1; have hal : Below w.heap.size w (w0.alloc (.cells #[.int .i64 x0, .int .i64 x1] 24)) := hb0.alloc hb0.size _; clear hown hgr hO0 hB0 k0 k1) | (at_builtin; refine wpList_append_item rfl (.tmp 27) (.tmp 31) rfl w.heap.size _ [] (x0, x1) ⟨w0.heap.size, 0, none⟩ 1 rfl (HO0.out.alloc _) rfl (by simp) (by simp [Addr.add]) (by simp) hal.size ?_; intro v1 w1 hA1 hg1 _; have hb1 : Below w.heap.size w w1 := hal.trans (below_of_grown (HO0.out.alloc _) hg1 (Nat.le_refl _) hal.size); have HA1 : Hid (OwnI w1 w.heap.size v1 ([] ++ [(x0, x1)])) := hA1; clear hA1 hg1) | (at_builtin; refine wpList_append_sl rfl (.tmp 33) (.tmp 34) rfl w.heap.size v1 _ _ ((y0, y1) :: b).toArray rfl rfl HA1.out (HSU.out.below hb1) (by simp; have h1 := HNA.out; have h2 := HNB.out; omega) hb1.size ?_; intro v2 w2 hA2 hg2; have hb2 : Below w.heap.size w w2 := hb1.trans (below_of_grown HA1.out hg2 (Nat.le_refl _) hb1.size); have HA2 : Hid (OwnI w2 w.heap.size v2 (([] ++ [(x0, x1)]) ++ ((y0, y1) :: b).toArray.toList)) := hA2; clear hA2 hg2) | (at_builtin; refine wpList_append_sl rfl (.tmp 36) (.tmp 38) rfl w.heap.size v2 _ _ a.toArray rfl rfl HA2.out (HT.out.below hb2) (by simp; have h1 := HNA.out; have h2 := HNB.out; omega) hb2.size ?_; intro v3 w3 hA3 hg3; have hb3 : Below w.heap.size w w3 := hb2.trans (below_of_grown HA2.out hg3 (Nat.le_refl _) hb2.size); have HA3 : Hid (OwnI w3 w.heap.size v3 ((([] ++ [(x0, x1)]) ++ ((y0, y1) :: b).toArray.toList) ++ a.toArray.toList)) := hA3; clear hA3 hg3))
  go_ret
  exact ⟨_, rfl, by simpa using HA3.out, hb3⟩
set_option maxHeartbeats 4000000 in
theorem linked_F2 (ba oa na ca bb ob nb cb : Nat) (x0 x1 y0 y1 : Int) (a b : List (Int × Int)) (w : World) (ha60 : na ≤ 1000) (hb60 : nb ≤ 1000) (hna : 0 < na) (hnb : 0 < nb) (hone : ca ≠ 1) (hx : ¬ y0 < x0) (HNA : Hid (a.length + 1 = na)) (HNB : Hid (b.length + 1 = nb)) (hca : na ≤ ca) (hcb : nb ≤ cb)
    (HA : Hid (RdAt w ba oa ((x0, x1) :: a).toArray)) (HB : Hid (RdAt w bb ob ((y0, y1) :: b).toArray)) :
    Calls Tryd.prog 55 #[.slice (some ⟨ba, oa, none⟩) na ca, .slice (some ⟨bb, ob, none⟩) nb cb] w fun e w' => ∃ u, e = .returned u ∧ OwnI w' w.heap.size u ((x0, x1) :: (((y0, y1) :: b) ++ a)) ∧ Below w.heap.size w w' := by
  have hzA : (0 : Int) < (na : Int) := by omega
  have hzB : (0 : Int) < (nb : Int) := by omega
  have hz1 : (1 : Int) ≤ (na : Int) := by omega
  have hw : IntKind.i64.wrap ((na : Int) + (nb : Int)) = (na : Int) + (nb : Int) := by rw [IntKind.wrap_i64]; omega
  have hd : decide (y0 < x0) = false := decide_eq_false hx
  obtain ⟨i0, hi, hi0, hi1, hi2⟩ := info_parts info_item
  obtain ⟨a0, a1⟩ := HA.out.2 0 (by simp)
  obtain ⟨b0, b1⟩ := HB.out.2 0 (by simp)
  simp only [Nat.zero_mul, Nat.add_zero] at a0 a1 b0 b1
  have a0' : w.cell? ⟨ba, oa, none⟩ = some (.int .i64 x0) := a0
  have a1' : w.cell? ⟨ba, oa + 1, none⟩ = some (.int .i64 x1) := a1
  have b0' : w.cell? ⟨bb, ob, none⟩ = some (.int .i64 y0) := b0
  have b1' : w.cell? ⟨bb, ob + 1, none⟩ = some (.int .i64 y1) := b1
  clear a0 a1 b0 b1
  have HSU : Hid (Sl w (.slice (some ⟨bb, ob, none⟩) nb cb) ((y0, y1) :: b).toArray) := by
    show Sl _ _ _; have := Sl.of_rd (cap := cb) HB.out (by rw [List.size_toArray, List.length_cons, HNB.out]; omega); rw [show ((y0, y1) :: b).toArray.size = nb by rw [List.size_toArray, List.length_cons]; exact HNB.out] at this; exact this
  have HT : Hid (Sl w (.slice (some ⟨ba, oa + 2, none⟩) (na - 1) (ca - 1)) a.toArray) := Sl.tail HA.out HNA.out hca
  go_enter Tryd.func55, Tryd.ntmps55
  go_wp2_with fail
  go_quiet (fail)
  have hq : Below w.heap.size w (w.drewN nq) := below_drewN (Below.refl _ _) nq
  have hltq : ba < (w.drewN nq).heap.size := HA.out.1
  have k0 : (w.drewN nq).cell? ⟨ba, oa, none⟩ = some (.int .i64 x0) := a0'
  have k1 : (w.drewN nq).cell? ⟨ba, oa + 1, none⟩ = some (.int .i64 x1) := a1'
  have hsq : w.heap.size ≤ (w.drewN nq).heap.size := Nat.le_refl _
  clear a0' a1' b0' b1'
  generalize w.drewN nq = wq at hq k0 k1 hsq hltq ⊢
  go_wp2_with (first | (at_make; refine wpList_make_own _ rfl _ (.tmp 25) 35 rfl w.heap.size 24 i0 (.agg #[.int .i64 0, .int .i64 0]) 2 Tryd.underlying35 hi hi0 hi1 .i64 .i64 _ (na + nb) rfl rfl (by omega) (by rw [hi2]; omega) (by unfold maxLen; omega) hsq ?_; intro w0 hown hgr; have hB0 : Below wq.heap.size wq w0 := (Below.refl _ _).grown hgr (Nat.le_refl _) (fun k e => by cases e); have hb0 : Below w.heap.size w w0 := hq.trans (hB0.mono hsq); have hO0 : OwnI w0 w.heap.size (.slice (some ⟨wq.heap.size, 0, none⟩) 0 (na + nb)) [] := hown; have HO0 : Hid (OwnI w0 w.heap.size (.slice (some ⟨wq.heap.size, 0, none⟩) 0 (na + nb)) []) := hO0; have l0 : w0.cell? ⟨ba, oa, none⟩ = some (.int .i64 x0) := (hB0.cell (p := ⟨ba, oa, none⟩) hltq).trans k0; have l1 : w0.cell? ⟨ba, oa + 1, none⟩ = some (.int .i64 x1) := (hB0.cell (p := ⟨ba, oa + 1, none⟩) hltq).trans k1; have hal : Below w.heap.size w (w0.alloc (.cells #[.int .i64 x0, .int .i64 x1] 24)) := hb0.alloc hb0.size _; clear hown hgr hO0 hB0 k0 k1) | (at_builtin; refine wpList_append_item rfl (.tmp 27) (.tmp 31) rfl w.heap.size _ [] (x0, x1) ⟨w0.heap.size, 0, none⟩ 1 rfl (HO0.out.alloc _) rfl (by simp) (by simp [Addr.add]) (by simp) hal.size ?_; intro v1 w1 hA1 hg1 _; have hb1 : Below w.heap.size w w1 := hal.trans (below_of_grown (HO0.out.alloc _) hg1 (Nat.le_refl _) hal.size); have HA1 : Hid (OwnI w1 w.heap.size v1 ([] ++ [(x0, x1)])) := hA1; clear hA1 hg1) | (at_builtin; refine wpList_append_sl rfl (.tmp 33) (.tmp 34) rfl w.heap.size v1 _ _ ((y0, y1) :: b).toArray rfl rfl HA1.out (HSU.out.below hb1) (by simp; have h1 := HNA.out; have h2 := HNB.out; omega) hb1.size ?_; intro v2 w2 hA2 hg2; have hb2 : Below w.heap.size w w2 := hb1.trans (below_of_grown HA1.out hg2 (Nat.le_refl _) hb1.size); have HA2 : Hid (OwnI w2 w.heap.size v2 (([] ++ [(x0, x1)]) ++ ((y0, y1) :: b).toArray.toList)) := hA2; clear hA2 hg2) | (at_builtin; refine wpList_append_sl rfl (.tmp 36) (.tmp 38) rfl w.heap.size v2 _ _ a.toArray rfl rfl HA2.out (HT.out.below hb2) (by simp; have h1 := HNA.out; have h2 := HNB.out; omega) hb2.size ?_; intro v3 w3 hA3 hg3; have hb3 : Below w.heap.size w w3 := hb2.trans (below_of_grown HA2.out hg3 (Nat.le_refl _) hb2.size); have HA3 : Hid (OwnI w3 w.heap.size v3 ((([] ++ [(x0, x1)]) ++ ((y0, y1) :: b).toArray.toList) ++ a.toArray.toList)) := hA3; clear hA3 hg3))
  go_ret
  exact ⟨_, rfl, by simpa using HA3.out, hb3⟩
theorem linked_any (va vb : Value) (a b : List (Int × Int)) (w : World) (ha : Sl w va a.toArray) (hb : Sl w vb b.toArray) (na : a ≠ []) (nb : b ≠ []) (la : a.length ≤ 1000) (lb : b.length ≤ 1000) :
    Calls Tryd.prog 55 #[va, vb] w fun e w' => ∃ u, e = .returned u ∧ OwnI w' w.heap.size u (linkL a b) ∧ Below w.heap.size w w' := by
  obtain ⟨⟨x0, x1⟩, a, rfl⟩ := List.exists_cons_of_ne_nil na
  obtain ⟨⟨y0, y1⟩, b, rfl⟩ := List.exists_cons_of_ne_nil nb
  obtain ⟨pa, ca, rfl, hca, h0 | ⟨ba, oa, rfl, hra⟩⟩ := ha
  · simp at h0
  obtain ⟨pb, cb, rfl, hcb, h0 | ⟨bb, ob, rfl, hrb⟩⟩ := hb
  · simp at h0
  simp only [List.size_toArray] at hca hcb ⊢
  unfold linkL
  by_cases hx : y0 < x0
  · simp only [if_pos hx]
    by_cases h1 : cb = 1
    · exact linked_S1 ba oa _ ca bb ob _ cb x0 x1 y0 y1 a b w la lb (by simp) (by simp) h1 hx rfl rfl hca hcb hra hrb
    · exact linked_S2 ba oa _ ca bb ob _ cb x0 x1 y0 y1 a b w la lb (by simp) (by simp) h1 hx rfl rfl hca hcb hra hrb
  · simp only [if_neg hx]
    by_cases h1 : ca = 1
    · exact linked_F1 ba oa _ ca bb ob _ cb x0 x1 y0 y1 a b w la lb (by simp) (by simp) h1 hx rfl rfl hca hcb hra hrb
    · exact linked_F2 ba oa _ ca bb ob _ cb x0 x1 y0 y1 a b w la lb (by simp) (by simp) h1 hx rfl rfl hca hcb hra hrb
#print axioms linked_any
end Go.Proofs.YtmkjalpgeljnkaaDoor
