/-
  The statements' own NodeItems: the items of a list of nodes.
-/
import Derived.Test.YtoaabpoicacogaaDoorElN
import Derived.Test.YtoaabpoicacogaaDoorOwnA
import Derived.Deep.RegionHeld3
namespace Go.Proofs.YtoaabpoicacogaaDoor
open Go.RowKit Go.Sort Go.Proofs

/-- 'append(dst, x)' at items, at a step of a region that draws its order. -/
theorem step_append_it {w : World} {ops : Array Oper} {o : Oper} {a : Act} {K : Act → World → Prop} {Q : Exit → Act → World → Prop} {E : Prop} (hgd : o.guard = none) (s x : Operand)
    (ho : o.op = .call { callee := .builtin .append, args := #[s, x], argTypes := #[44, 44] }) (base : Nat) (v : Value) (ys : List (Int × Int)) (y : Int × Int) (ad : Addr) (c : Nat) (hs : a.eval s = v) (hown : OwnI w base v ys)
    (hx : a.eval x = .slice (some ad) 1 c) (c0 : w.cell? ad = some (.int .i64 y.1)) (c1 : w.cell? (ad.add 1) = some (.int .i64 y.2)) (hsz : ys.length ≤ 1000000) (hbase : base ≤ w.heap.size)
    (h : ∀ v' w', OwnI w' base v' (ys ++ [y]) → w.grownBy w' v.ownBlock → K (a.put o.dst v') w') :
    if Region.wanted o (yielded ops a.tmps) = true then Oper.wp Tryd.prog o a w K Q else E := by
  have hw : Region.wanted o (yielded ops a.tmps) = true := by simp [Region.wanted, hgd]
  rw [if_pos hw]
  obtain ⟨v', w', hr, h2, h3, h4⟩ := run_append_item w o.type base v ys y ad c hown c0 c1 hsz hbase
  unfold Oper.wp execOp
  simp only [ho, resolve, invoke, builtin, Sem.run_bind, Sem.run_pure, Result.andThen_ok, List.map_toArray, List.map_cons, List.map_nil, hs, hx, hr]
  exact h _ _ h2 h3
/-- The item of a node. -/
def itN (x : Nd) : Int × Int := (x.1, x.2.1)
theorem nodeItems_none (p : Option Addr) (cap : Nat) (w : World) : Calls Tryd.prog 21 #[.slice p 0 cap] w fun e w' => e = .returned (.slice none 0 0) ∧ w' = w := by
  go_enter Tryd.func21, Tryd.ntmps21
  go_wp2
  go_loop [3, 4] (fun o i => o = .slice none 0 0 ∧ i = .int .i64 0) (fun _ _ => 0)
  case atStart => exact ⟨rfl, rfl⟩
  case round =>
    obtain ⟨rfl, rfl⟩ := hrel
    go_wp2
    go_ret
    exact ⟨rfl, rfl⟩
set_option maxHeartbeats 4000000 in
set_option maxRecDepth 4000 in
theorem nodeItems_some (blk off n cap : Nat) (xs : List Nd) (w : World) (hn : n ≤ 1000) (HN : Hid (xs.length = n)) (HR : Hid (RdE EN w blk off xs)) :
    Calls Tryd.prog 21 #[.slice (some ⟨blk, off, none⟩) n cap] w fun e w' => ∃ u, e = .returned u ∧ OwnI w' w.heap.size u (xs.map itN) ∧ Below w.heap.size w w' := by
  have hblk := HR.out.1
  go_enter Tryd.func21, Tryd.ntmps21
  go_wp2
  go_loopg [3, 4] n (fun gg vo vi wr => ∃ i : Nat, vi = .int .i64 i ∧ i ≤ n ∧ n - i ≤ gg ∧ Hid (OwnI wr w.heap.size vo ((xs.take i).map itN)) ∧ Hid (Below w.heap.size w wr))
  case atStart => exact ⟨0, rfl, Nat.zero_le _, by omega, (show OwnI _ _ _ _ by simpa using OwnI.nil _ _), Below.refl _ _⟩
  case round =>
    obtain ⟨i, rfl, hin, hg, HO, HB⟩ := hrel
    by_cases hlt : i < n
    · have hlz : (i : Int) < (n : Int) := by omega
      obtain ⟨⟨k, d, L, R⟩, hx⟩ : ∃ x, xs[i]? = some x := ⟨xs[i]'(by rw [HN.out]; omega), by simp⟩
      obtain ⟨c0, c1, _, _⟩ := (HR.out.below HB.out hblk).node hx
      have HE : Hid ((xs.take (i + 1)).map itN = (xs.take i).map itN ++ [(k, d)]) := by
        show _ = _
        obtain ⟨hi, e⟩ := List.getElem?_eq_some_iff.1 hx
        rw [List.take_succ_eq_append_getElem hi, e, List.map_append]
        rfl
      have hlen : ((xs.take i).map itN).length ≤ 1000 := by simp; omega
      have hB : w.heap.size ≤ wr.heap.size := HB.out.size
      have hlb : blk < wr.heap.size := Nat.lt_of_lt_of_le hblk hB
      clear hx
      go_wp2_with fail
      go_region_held3 (fun w' => w'.cell? ⟨blk, off + i * 4, none⟩ = some (.int .i64 k) ∧ w'.cell? ⟨blk, off + i * 4 + 1, none⟩ = some (.int .i64 d)) (first | go_keep | (exact ⟨y0, y1⟩))
        ((refine step_append_it (by rfl) (.tmp 11) (.tmp 23) (by rfl) w.heap.size u3 ((xs.take i).map itN) (k, d) ⟨wr.heap.size, 0, none⟩ 1 (by rfl) (OwnI.drewN (OwnI.alloc HO.out _) 1) (by rfl) (by simp) (by simp [Addr.add]) (by omega) (by simp; omega) ?_; intro v2 w2 h2 hg2; have hb2 : Below w.heap.size w w2 := (below_drewN (HB.out.alloc hB _) 1).trans (below_of_grown (OwnI.drewN (OwnI.alloc HO.out _) 1) hg2 (Nat.le_refl _) (by simp; omega)); have y0 := (hb2.cell (p := ⟨blk, off + i * 4, none⟩) hblk).trans ((HB.out.cell (p := ⟨blk, off + i * 4, none⟩) hblk).symm.trans c0); have y1 := (hb2.cell (p := ⟨blk, off + i * 4 + 1, none⟩) hblk).trans ((HB.out.cell (p := ⟨blk, off + i * 4 + 1, none⟩) hblk).symm.trans c1); have HO2 : Hid (OwnI w2 w.heap.size v2 ((xs.take (i + 1)).map itN)) := (by show OwnI _ _ _ _; rw [HE.out]; exact h2); have HB2 : Hid (Below w.heap.size w w2) := hb2; clear h2 hg2 hb2))
      all_goals
        go_wp2
        go_roundg (n - (i + 1))
        case measure => omega
        case rel => exact ⟨i + 1, by go_num, by omega, Nat.le_refl _, HO2, HB2⟩
    · have hlz : ¬ (i : Int) < (n : Int) := by omega
      have HO' : Hid (OwnI wr w.heap.size u3 (xs.map itN)) := by show OwnI _ _ _ _; have := HO.out; rw [List.take_of_length_le (by rw [HN.out]; omega)] at this; exact this
      go_wp2
      go_ret
      exact ⟨_, rfl, HO'.out, HB.out⟩
theorem nodeItems_any (v : Value) (xs : List Nd) (w : World) (h : SlE EN w v xs) (hn : xs.length ≤ 1000) :
    Calls Tryd.prog 21 #[v] w fun e w' => ∃ u, e = .returned u ∧ OwnI w' w.heap.size u (xs.map itN) ∧ Below w.heap.size w w' := by
  obtain ⟨p, cap, rfl, _, rfl | ⟨blk, off, rfl, hr⟩⟩ := h
  · exact (nodeItems_none p cap w).mono fun e w' ⟨a, b⟩ => ⟨_, a, OwnI.nil _ _, by rw [b]; exact Below.refl _ _⟩
  · exact nodeItems_some blk off _ cap xs w hn rfl hr
#print axioms nodeItems_any
end Go.Proofs.YtoaabpoicacogaaDoor
