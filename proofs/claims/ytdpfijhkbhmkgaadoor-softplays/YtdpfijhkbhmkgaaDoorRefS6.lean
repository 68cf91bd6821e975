/-
  The document's SoftPush: what its loop keeps.
-/
import Derived.Test.YtdpfijhkbhmkgaaDoorRefS5
namespace Go.Proofs.YtdpfijhkbhmkgaaDoor
open Go.RowKit Go.Sort Go.Proofs

/-- The blocks of F, and three more. -/
def FB (F : Nat → Prop) (N : Nat) (j : Nat) : Prop := F j ∨ (N ≤ j ∧ j < N + 3)
/-- What SoftPush's loop keeps. -/
structure PushD (w : World) (base : Nat) (F : Nat → Prop) (N r0 n : Nat) (T : List SN) (c0 : Value) (tw : SlW) (g cn cc a k gk : Nat) (wr : World) : Prop where
  ex : ∃ Q c ts is0 fc fr, CellsAt EC wr base (.slice (some ⟨g, 0, none⟩) cn cc) (FB F N) Q ∧ PushA (plainQ Q) c a ts (is0.drop k) fc fr ∧ NumX wr (fun j => j = g ∨ FB F N j) tw is0 ∧ k ≤ is0.length ∧
    joinS r0 c ts = T ∧ JoinG r0 (n + 1) c ts ∧ Q.length + ts.length + 1 ≤ 2 * (n + 1) ∧ ts.length ≤ gk
  chg : Chg (fun j => c0.ownBlock = some j) w wr
  old : c0.ownBlock = some g ∨ N ≤ g
  box : BlkAt wr N #[.int .i64 (r0 : Int), .int .i64 ((n : Int) + 1), .slice (some ⟨g, 0, none⟩) cn cc, .slice tw.1 tw.2.1 tw.2.2]
  res : BlkAt wr (N + 2) #[.int .i64 0, .int .i64 0, .slice none 0 0, .slice none 0 0]
  last : a + 1 = cn
  few : tw.2.1 ≤ n ∧ n < 400
section
variable {w wr w' : World} {base N r0 n g cn cc a k gk : Nat} {F : Nat → Prop} {T : List SN} {c0 : Value} {tw : SlW}
theorem PushD.below (h : PushD w base F N r0 n T c0 tw g cn cc a k gk wr) (hb : Below wr.heap.size wr w') : PushD w base F N r0 n T c0 tw g cn cc a k gk w' := by
  obtain ⟨Q, c, ts, is0, fc, fr, h1, h2, h3, h4⟩ := h.ex
  exact ⟨⟨Q, c, ts, is0, fc, fr, h1.below hb, h2, h3.below hb, h4⟩, h.chg.trans (Chg.of_below (F := fun _ => False) hb) (fun _ z => z.elim), h.old, h.box.below hb, h.res.below hb, h.last, h.few⟩
/-- The cell that is put behind, while it is new. -/
def leafC (x0 x1 : Int) (N : Nat) : SC × SlW := (⟨x0, 0, 1, -1, -1, [(x0, x1)]⟩, some ⟨N + 3, 0, none⟩, 1, 1)
end
theorem foreign_all {w w' : World} {base N : Nat} {F : Nat → Prop} {v : Value} {Q : List (SC × SlW)} (h : CellsAt EC w base v F Q) (hN : w.heap.size = N) (hc : Below w.heap.size w w') (hs : N + 3 ≤ w'.heap.size) : CellsAt EC w' base v (FB F N) Q := by
  subst hN
  refine h.foreign (Chg.of_below hc) (fun j z => z.imp_right (·.1)) (fun j z => ?_)
  rcases z with z | z
  · exact Nat.lt_of_lt_of_le (h.low j z) hc.size
  · have := z.2
    exact Nat.lt_of_lt_of_le this hs
/-- How SoftPush's loop begins. -/
theorem push_begin {w W : World} {base r0 n : Nat} {F : Nat → Prop} {cp tp : Option Addr} {cn cc tn tc : Nat} {ts : List SN} {x0 x1 : Int} {N : Nat} (hD : DocS w base F (cp, cn, cc) (tp, tn, tc) n ts) (hG : GoodS r0 n ts) (hm : (allS ts).length ≤ n) (hn : n < 400) (hbase : base ≤ w.heap.size) (hN : w.heap.size = N)
    (hW : W = (((((w.alloc (.cells #[.int .i64 (r0 : Int), .int .i64 ((n : Int) + 1), .slice cp cn cc, .slice tp tn tc] 40)).alloc (.cells #[.int .i64 x0, .int .i64 x1] 30)).alloc (.cells #[.int .i64 0, .int .i64 0, .slice none 0 0, .slice none 0 0] 40)).alloc (.cells #[.int .i64 x0, .int .i64 x1] 30)).alloc
      (.cells #[.int .i64 x0, .int .i64 0, .int .i64 1, .int .i64 (-1), .int .i64 (-1), .slice (some ⟨N + 1 + 1 + 1, 0, none⟩) 1 1] 70))) :
    ∃ Q, OwnE EC W base (.slice cp cn cc) Q ∧ Q.length ≤ 100000 ∧ base ≤ W.heap.size ∧ (∀ j u, (EC.enc (leafC x0 x1 N))[j]? = some u → W.cell? ((⟨N + 1 + 1 + 1 + 1, 0, none⟩ : Addr).add j) = some u) ∧
      ∀ v' wa, OwnE EC wa base v' (Q ++ [leafC x0 x1 N]) → W.grownBy wa (Value.slice cp cn cc).ownBlock → (v'.ownBlock = (Value.slice cp cn cc).ownBlock ∨ v'.ownBlock = some W.heap.size) →
        ∃ g ccn, v' = .slice (some ⟨g, 0, none⟩) (cn + 1) ccn ∧ wa.cell? ⟨N, 2, none⟩ = some (.slice cp cn cc) ∧ wa.frozen? ⟨N, 2, none⟩ = false ∧ PushD w base F N r0 n (pushS r0 (x0, x1) ts) (.slice cp cn cc) (tp, tn, tc) g (cn + 1) ccn cn 0 ts.length (wa.setCell ⟨N, 2, none⟩ v') := by
  obtain ⟨Q, is, f, h1, h2, h3, h4⟩ := hD
  obtain ⟨p0, c0', e0⟩ := h1.own.form
  simp only [Value.slice.injEq] at e0
  have hcn : cn = Q.length := e0.2.1
  have hbW : Below w.heap.size w W := by
    rw [hW]
    exact (((((Below.refl _ w).alloc (Nat.le_refl _) _).alloc (by simp) _).alloc (by simp; omega) _).alloc (by simp; omega) _).alloc (by simp; omega) _
  have hsz : W.heap.size = N + 5 := by rw [hW, ← hN]; simp
  have hQ : CellsAt EC W base (.slice cp cn cc) (FB F N) Q := foreign_all h1 hN hbW (by omega)
  have hT : NumX W (fun j => (Value.slice cp cn cc).ownBlock = some j ∨ FB F N j) (tp, tn, tc) is := h3.kept (Chg.of_below (F := fun _ => False) hbW) (fun _ z => z.elim) (fun j z => by
    rcases z with z | z | z
    · exact Or.inl (Or.inl z)
    · exact Or.inl (Or.inr z)
    · exact Or.inr (by rw [hN]; exact z.1))
  have hb0 : BlkAt W N #[.int .i64 (r0 : Int), .int .i64 ((n : Int) + 1), .slice cp cn cc, .slice tp tn tc] := by
    rw [hW, ← hN]
    exact ((((BlkAt.new w _ _).below ((Below.refl _ _).alloc (Nat.le_refl _) _)).below ((Below.refl _ _).alloc (Nat.le_refl _) _)).below ((Below.refl _ _).alloc (Nat.le_refl _) _)).below ((Below.refl _ _).alloc (Nat.le_refl _) _)
  have hb2 : BlkAt W (N + 2) #[.int .i64 0, .int .i64 0, .slice none 0 0, .slice none 0 0] := by
    rw [hW, ← hN]
    have := BlkAt.new ((w.alloc (.cells #[.int .i64 (r0 : Int), .int .i64 ((n : Int) + 1), .slice cp cn cc, .slice tp tn tc] 40)).alloc (.cells #[.int .i64 x0, .int .i64 x1] 30)) #[.int .i64 0, .int .i64 0, .slice none 0 0, .slice none 0 0] 40
    rw [show ((w.alloc (.cells #[.int .i64 (r0 : Int), .int .i64 ((n : Int) + 1), .slice cp cn cc, .slice tp tn tc] 40)).alloc (.cells #[.int .i64 x0, .int .i64 x1] 30)).heap.size = w.heap.size + 2 by simp] at this
    exact (this.below ((Below.refl _ _).alloc (Nat.le_refl _) _)).below ((Below.refl _ _).alloc (Nat.le_refl _) _)
  have hb3 : BlkAt W (N + 3) #[.int .i64 x0, .int .i64 x1] := by
    rw [hW, ← hN]
    have := BlkAt.new (((w.alloc (.cells #[.int .i64 (r0 : Int), .int .i64 ((n : Int) + 1), .slice cp cn cc, .slice tp tn tc] 40)).alloc (.cells #[.int .i64 x0, .int .i64 x1] 30)).alloc (.cells #[.int .i64 0, .int .i64 0, .slice none 0 0, .slice none 0 0] 40)) #[.int .i64 x0, .int .i64 x1] 30
    rw [show (((w.alloc (.cells #[.int .i64 (r0 : Int), .int .i64 ((n : Int) + 1), .slice cp cn cc, .slice tp tn tc] 40)).alloc (.cells #[.int .i64 x0, .int .i64 x1] 30)).alloc (.cells #[.int .i64 0, .int .i64 0, .slice none 0 0, .slice none 0 0] 40)).heap.size = w.heap.size + 3 by simp] at this
    exact this.below ((Below.refl _ _).alloc (Nat.le_refl _) _)
  have hb4 : BlkAt W (N + 4) (EC.enc (leafC x0 x1 N)).toArray := by
    rw [hW, ← hN]
    have := BlkAt.new ((((w.alloc (.cells #[.int .i64 (r0 : Int), .int .i64 ((n : Int) + 1), .slice cp cn cc, .slice tp tn tc] 40)).alloc (.cells #[.int .i64 x0, .int .i64 x1] 30)).alloc (.cells #[.int .i64 0, .int .i64 0, .slice none 0 0, .slice none 0 0] 40)).alloc (.cells #[.int .i64 x0, .int .i64 x1] 30)) #[.int .i64 x0, .int .i64 0, .int .i64 1, .int .i64 (-1), .int .i64 (-1), .slice (some ⟨w.heap.size + 1 + 1 + 1, 0, none⟩) 1 1] 70
    rw [show ((((w.alloc (.cells #[.int .i64 (r0 : Int), .int .i64 ((n : Int) + 1), .slice cp cn cc, .slice tp tn tc] 40)).alloc (.cells #[.int .i64 x0, .int .i64 x1] 30)).alloc (.cells #[.int .i64 0, .int .i64 0, .slice none 0 0, .slice none 0 0] 40)).alloc (.cells #[.int .i64 x0, .int .i64 x1] 30)).heap.size = w.heap.size + 4 by simp] at this
    exact this
  clear hW
  have hnQ : ∀ j, (Value.slice cp cn cc).ownBlock = some j → j < N := fun j e => by rw [← hN]; exact (World.ownsRow.lt h1.own j e).2
  refine ⟨Q, hQ.own, by omega, Nat.le_trans hbase hbW.size, fun j u hu => ?_, fun v' wa ho hg hbk => ?_⟩
  · rw [show ((⟨N + 1 + 1 + 1 + 1, 0, none⟩ : Addr).add j) = ⟨N + 4, j, none⟩ by unfold Addr.add; split <;> simp_all]
    exact hb4.cell (by simpa using hu)
  · have hx : SlX W (fun j => (Value.slice cp cn cc).ownBlock = some j ∨ FB F N j) (leafC x0 x1 N).2 (leafC x0 x1 N).1.items := by
      refine ⟨rfl, Nat.le_refl _, Or.inr ⟨N + 3, 0, rfl, fun z => ?_, by have := hb3.lt; exact this, fun i hi => ?_⟩⟩
      · rcases z with z | z | z
        · have := hnQ _ z; omega
        · have := h1.low _ z; omega
        · omega
      · have hi : i < 1 := hi
        obtain rfl : i = 0 := by omega
        exact ⟨hb3.cell (j := 0) rfl, hb3.cell (j := 1) rfl⟩
    have hQ2 := hQ.grow ho hg hbk hx
    have hch : Chg (fun j => (Value.slice cp cn cc).ownBlock = some j) W wa := Chg.of_grown hg (fun k e => e)
    have hlen : (Q ++ [leafC x0 x1 N]).length = cn + 1 := by rw [List.length_append, hcn]; rfl
    obtain ⟨g, ccn, rfl, _⟩ := ho.some hlen (by omega)
    have hold : (Value.slice cp cn cc).ownBlock = some g ∨ N ≤ g := by
      rcases hbk with z | z
      · exact Or.inl z.symm
      · right; have : g = W.heap.size := Option.some.inj z
        omega
    have hgN : ¬ (N ≤ g ∧ g < N + 3) := by
      rcases hbk with z | z
      · have := hnQ g z.symm; omega
      · have : g = W.heap.size := Option.some.inj z
        omega
    have hno : ∀ j, N ≤ j → j < N + 3 → ¬ (Value.slice cp cn cc).ownBlock = some j := fun j a b z => by have := hnQ j z; omega
    have hb0' : BlkAt wa N #[.int .i64 (r0 : Int), .int .i64 ((n : Int) + 1), .slice cp cn cc, .slice tp tn tc] := hb0.chg hch (hno _ (Nat.le_refl _) (by omega))
    have hb2' := hb2.chg hch (hno (N + 2) (by omega) (by omega))
    have hT2 : NumX wa (fun j => j = g ∨ FB F N j) (tp, tn, tc) is := hT.kept hch (fun j z => Or.inl z) (fun j z => by
      rcases z with z | z
      · rcases hbk with y | y
        · left; left; rw [← y, z]; rfl
        · right; have : g = W.heap.size := Option.some.inj y
          omega
      · exact Or.inl (Or.inr z))
    have hstep : Chg (FB F N) wa (wa.setCell ⟨N, 2, none⟩ (.slice (some ⟨g, 0, none⟩) (cn + 1) ccn)) := (Chg.refl _ wa).setCell (p := ⟨N, 2, none⟩) (Or.inl (Or.inr ⟨Nat.le_refl _, by show N < N + 3; omega⟩)) _
    have hlow : ∀ j, FB F N j → j < (wa.setCell ⟨N, 2, none⟩ (.slice (some ⟨g, 0, none⟩) (cn + 1) ccn)).heap.size := fun j z => by rw [size_cell]; exact hQ2.low j z
    refine ⟨g, ccn, rfl, hb0'.cell (j := 2) rfl, hb0'.fr 2, ⟨⟨Q ++ [leafC x0 x1 N], leafS (x0, x1), ts, is, [cn], f, hQ2.foreign hstep (fun j z => Or.inl z) hlow, ?_, ?_, Nat.zero_le _, rfl, ?_, ?_, Nat.le_refl _⟩, ?_, hold, ?_, ?_, rfl, ?_, hn⟩⟩
    · have := h2.start (x0, x1)
      rw [plainQ_append, List.drop_zero]
      rw [plainQ_length, ← hcn] at this
      exact this
    · exact hT2.kept hstep (fun j z => Or.inr z) (fun j z => Or.inl z)
    · refine ⟨leaf_good r0 _, rfl, fun _ _ => Nat.zero_le _, hG.good, hG.rise, ?_, ?_⟩
      · have := hG.room; show 2 ^ 0 + _ ≤ _; omega
      · simp [leafS, SN.all_node, SN.all_nil]; omega
    · rw [hlen]; omega
    · refine (Chg.trans (F := fun j => (Value.slice cp cn cc).ownBlock = some j) (Chg.of_below hbW) hch (fun j z => Or.inl z)).setCell (p := ⟨N, 2, none⟩) (Or.inr (by show _ ≤ N; omega)) _
    · exact hb0'.put 2 _
    · exact hb2'.far _ (by omega)
    · have h5 := h3.1
      have h6 := h2.trees.length
      have h7 := len_room ts
      have h8 := hG.room
      show tn ≤ n
      simp only at h5
      omega
theorem rank_le2 {r : Nat} (h : 2 ^ r ≤ 1000) : r ≤ 1000 := Nat.le_trans (Nat.le_of_lt Nat.lt_two_pow_self) h
/-- What is left of it when it ends. -/
structure PushE (w : World) (base : Nat) (F : Nat → Prop) (N r0 n : Nat) (T : List SN) (c0 : Value) (tw : SlW) (g cn cc a k : Nat) (wr : World) : Prop where
  ex : ∃ Q is0 f, CellsAt EC wr base (.slice (some ⟨g, 0, none⟩) cn cc) (FB F N) Q ∧ HeapA (plainQ Q) T (a :: is0.drop k) f ∧ NumX wr (fun j => j = g ∨ FB F N j) tw is0 ∧ k ≤ is0.length ∧ Q.length + T.length ≤ 2 * (n + 1)
  chg : Chg (fun j => c0.ownBlock = some j) w wr
  old : c0.ownBlock = some g ∨ N ≤ g
  box : BlkAt wr N #[.int .i64 (r0 : Int), .int .i64 ((n : Int) + 1), .slice (some ⟨g, 0, none⟩) cn cc, .slice tw.1 tw.2.1 tw.2.2]
  res : BlkAt wr (N + 2) #[.int .i64 0, .int .i64 0, .slice none 0 0, .slice none 0 0]
section
variable {w wr W : World} {base N r0 n g cn cc a k gk : Nat} {F : Nat → Prop} {T : List SN} {c0 : Value} {tw : SlW}
/-- What is read at the loop's head. -/
theorem PushD.view (h : PushD w base F N r0 n T c0 tw g cn cc a k gk wr) : ∃ cr : Nat, wr.cell? ⟨g, a * 6 + 1, none⟩ = some (.int .i64 (cr : Int)) ∧ g < wr.heap.size ∧ tw.2.1 ≤ 2 * n + 2 ∧ tw.2.1 ≤ tw.2.2 ∧ k ≤ tw.2.1 ∧ cn ≤ 2 * n + 2 ∧
    ((k = tw.2.1 ∧ PushE w base F N r0 n T c0 tw g cn cc a k wr) ∨
      (k < tw.2.1 ∧ ∃ tb i tr mt : Nat, tw.1 = some ⟨tb, 0, none⟩ ∧ tb < wr.heap.size ∧ wr.cell? ⟨tb, k, none⟩ = some (.int .i64 (i : Int)) ∧ i < cn ∧ wr.cell? ⟨g, i * 6 + 1, none⟩ = some (.int .i64 (tr : Int)) ∧ wr.cell? ⟨g, i * 6 + 2, none⟩ = some (.int .i64 (mt : Int)) ∧
        ((tr ≠ cr ∧ PushE w base F N r0 n T c0 tw g cn cc a k wr) ∨
          (tr = cr ∧ mt = wantR r0 tr ∧ mt ≤ 1000 ∧ tr ≤ 1000 ∧ ∃ Q c t ts is0 is fc fr, CellsAt EC wr base (.slice (some ⟨g, 0, none⟩) cn cc) (FB F N) Q ∧ PushA (plainQ Q) c a (t :: ts) (i :: is) fc fr ∧ NumX wr (fun j => j = g ∨ FB F N j) tw is0 ∧ is = is0.drop (k + 1) ∧ k + 1 ≤ is0.length ∧
            joinS r0 c (t :: ts) = T ∧ JoinG r0 (n + 1) c (t :: ts) ∧ Q.length + (t :: ts).length + 1 ≤ 2 * (n + 1) ∧ (t :: ts).length ≤ gk ∧ t.rank = c.rank ∧ t.rank = tr)))) := by
  obtain ⟨Q, c, ts, is0, fc, fr, h1, h2, h3, h4, h5, h6, h7, h8⟩ := h.ex
  obtain ⟨n', d, e1, e2, e3, e4, e5⟩ := rep_cell h2.tree h6.some
  obtain rfl : a = n' := by omega
  obtain ⟨⟨p, sl, sc⟩, hQa⟩ := plainQ_get e3
  obtain ⟨_, w1, _⟩ := h1.words hQa
  have hl := h1.len
  have htn : tw.2.1 = is0.length := h3.1
  have hil := h2.rest.length
  rw [List.length_drop] at hil
  have hT : ∀ t us, ts = t :: us → t.rank ≠ c.rank → T = c :: ts := fun t us e q => by
    rw [← h5, e]
    simp only [joinS]
    rw [if_neg q]
  have fin : T = c :: ts → PushE w base F N r0 n T c0 tw g cn cc a k wr := fun e => by
    refine ⟨⟨Q, is0, _, h1, by rw [e]; exact h2.done, h3, h4, by rw [e, List.length_cons]; omega⟩, h.chg, h.old, h.box, h.res⟩
  have hfew := h.few
  refine ⟨d.rank, w1, h1.lt, by omega, by rw [htn]; exact h3.2.1, by omega, by omega, ?_⟩
  rcases Nat.lt_or_ge k tw.2.1 with hk | hk
  · right
    cases ts with
    | nil => simp at hil; omega
    | cons t us =>
      have hkl : k < is0.length := by omega
      have hdrop : is0.drop k = is0[k] :: is0.drop (k + 1) := List.drop_eq_getElem_cons hkl
      have hr := h2.rest
      rw [hdrop] at hr
      obtain ⟨f1, f2, r1, r2, r3⟩ := hr
      obtain ⟨ht1, ht2⟩ := h6.all t List.mem_cons_self
      obtain ⟨n'', d2, q1, q2, q3, q4, q5⟩ := rep_cell r1 ht2
      have hi : is0[k] = n'' := by omega
      obtain ⟨⟨p2, sl2, sc2⟩, hQi⟩ := plainQ_get q3
      obtain ⟨_, v1, v2, _⟩ := h1.words hQi
      have hin : n'' < cn := by rw [← hl]; exact (List.getElem?_eq_some_iff.1 hQi).1
      obtain ⟨tb, b1, b2, b3⟩ := h3.at (k := k) (i := is0[k]) (List.getElem?_eq_getElem hkl)
      rw [hi] at b3
      refine ⟨hk, tb, n'', d2.rank, d2.want, b1, b2, b3, hin, v1, v2, ?_⟩
      by_cases er : t.rank = c.rank
      · right
        have hsm := h6.small (by omega)
        have hwant : d2.want = wantR r0 d2.rank := by
          cases t using SN.parts with
          | nil => simp [SN.none?] at ht2
          | node kt rt mt it ta tb' =>
            obtain ⟨m', l', m'', fa, fb, z1, z2, _⟩ := rep_node.1 r1
            obtain rfl : m' = n'' := by omega
            rw [z2] at q3
            obtain rfl := Option.some.inj q3
            exact ((good_node.1 ht1).1).want
        have hp := wantR_pow r0 d2.rank
        rw [← q5] at hsm
        refine ⟨by rw [q5, er, e5], hwant, by omega, rank_le2 hsm.2, Q, c, t, us, is0, is0.drop (k + 1), fc, fr, h1, ?_, h3, rfl, by omega, h5, h6, h7, h8, er, q5.symm⟩
        have h2' := h2
        rw [hdrop, hi] at h2'
        exact h2'
      · left
        exact ⟨by rw [q5, e5]; exact er, fin (hT t us rfl er)⟩
  · left
    have hk2 : k = tw.2.1 := by omega
    have e0 : ts = [] := by
      have : ts.length = 0 := by omega
      exact List.eq_nil_of_length_eq_zero this
    exact ⟨hk2, fin (by rw [← h5, e0]; rfl)⟩
end
end Go.Proofs.YtdpfijhkbhmkgaaDoor
