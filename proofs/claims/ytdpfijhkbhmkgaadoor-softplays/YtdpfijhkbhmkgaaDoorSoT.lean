/-
  Package soft: takeLeft: the items of the left part are brought up.
-/
import Derived.Test.YtdpfijhkbhmkgaaDoorSoF
import Derived.Deep.RegionLaw
namespace Go.Proofs.YtdpfijhkbhmkgaaDoor
open Go.RowKit Go.Sort Go.Proofs

/-- 'append(dst, src...)' at a step of a region that draws its order. -/
theorem step_appendR {P : Program} {α : Type} (E : El P α) {w : World} {ops : Array Oper} {o : Oper} {a : Act} {K : Act → World → Prop} {Q : Exit → Act → World → Prop} {R : Prop} (hgd : o.guard = none) (s x : Operand)
    (ho : o.op = .call { callee := .builtin .append, args := #[s, x], argTypes := #[E.S, E.S] }) (base : Nat) (v : Value) (ys zs : List α) (ad : Addr) (m c : Nat) (hm : zs.length = m) (hm0 : m ≠ 0) (hs : a.eval s = v) (hown : OwnE E w base v ys)
    (hx : a.eval x = .slice (Option.some ad) m c) (hc : ∀ j u, (E.flat zs)[j]? = Option.some u → w.cell? (ad.add j) = Option.some u) (hsz : ys.length + m ≤ 1000000) (hbase : base ≤ w.heap.size)
    (h : ∀ v' w', OwnE E w' base v' (ys ++ zs) → w.grownBy w' v.ownBlock → (v'.ownBlock = v.ownBlock ∨ v'.ownBlock = Option.some w.heap.size) → K (a.put o.dst v') w') : if Region.wanted o (yielded ops a.tmps) = true then Oper.wp P o a w K Q else R := by
  have hw : Region.wanted o (yielded ops a.tmps) = true := by simp [Region.wanted, hgd]
  rw [if_pos hw]
  obtain ⟨v', w', hr, h2, h3, h4⟩ := run_appendE w o.type base v ys zs ad m c hm hown hc hsz hbase
  unfold Oper.wp
  simp [execOp, ho, resolve, invoke, builtin, hs, hx, hr, Result.andThen]
  exact h v' w' h2 h3 (h4 hm0)

/-- What takeLeft has done when it has brought the items up: the node, the part without items. -/
structure Up (w' : World) (nb jb : Nat) (iv va vb va2 vb2 : Value) (k : Int) (r m r2 m2 : Nat) (is : List (Int × Int)) (fi : List Nat) : Prop where
  node : Nb w' nb iv k r m va vb
  part : Nb w' jb (.slice none 0 0) k r2 m2 va2 vb2
  items : ItsAt w' iv is fi
theorem up_of {w wq w1 : World} {nb jb : Nat} {iv v1 jv va vb va2 vb2 : Value} {k kj : Int} {r m r2 m2 : Nat} {is ia : List (Int × Int)} {fi : List Nat} (hn : Nb w nb iv k r m va vb) (hj : Nb w jb jv kj r2 m2 va2 vb2) (hi : ItsAt w iv is fi) (hq : wq = w.drewN 1)
    (hne : jb ≠ nb) (hni : nb ∉ fi) (hji : jb ∉ fi) (ho : OwnE EI w1 0 v1 (is ++ ia)) (hg : wq.grownBy w1 iv.ownBlock) (hb : v1.ownBlock = iv.ownBlock ∨ v1.ownBlock = some w.heap.size) :
    Nb w1 nb iv k r m va vb ∧ Nb w1 jb jv kj r2 m2 va2 vb2 ∧ Nb (w1.setCell ⟨nb, 0, none⟩ v1) nb v1 k r m va vb ∧ Nb (w1.setCell ⟨nb, 0, none⟩ v1) jb jv kj r2 m2 va2 vb2 ∧
      ∃ fi', Hid (∀ j ∈ fi', j ∈ fi ∨ j = w.heap.size) ∧ Hid (Up (((w1.setCell ⟨nb, 0, none⟩ v1).setCell ⟨nb, 1, none⟩ (.int .i64 kj)).setCell ⟨jb, 0, none⟩ (.slice none 0 0)) nb jb v1 va vb va2 vb2 kj r m r2 m2 (is ++ ia) fi') ∧
        Hid (Chg (fun j => j ∈ nb :: jb :: fi) w (((w1.setCell ⟨nb, 0, none⟩ v1).setCell ⟨nb, 1, none⟩ (.int .i64 kj)).setCell ⟨jb, 0, none⟩ (.slice none 0 0))) ∧ Hid (fi'.Nodup ∧ nb ∉ fi' ∧ jb ∉ fi') := by
  subst hq
  obtain ⟨hi1, rfl⟩ := hi
  have hbl : ∀ q, q < w.heap.size → q ∉ iv.ownBlock.toList → w1.heap[q]? = w.heap[q]? := fun q h1 h2 => hg.block q h1 (fun e => h2 (by rw [← e]; simp))
  have n1 := hn.kept (hbl nb hn.lt hni)
  have j1 := hj.kept (hbl jb hj.lt hji)
  have hfi : ∀ j ∈ v1.ownBlock.toList, j ∈ iv.ownBlock.toList ∨ j = w.heap.size := by
    intro j hj
    rcases hb with e | e
    · rw [e] at hj; exact Or.inl hj
    · rw [e] at hj; right; simpa using hj
  have hnn : nb ∉ v1.ownBlock.toList := fun q => by
    rcases hfi nb q with z | z
    · exact hni z
    · have := hn.lt; omega
  have hjj : jb ∉ v1.ownBlock.toList := fun q => by
    rcases hfi jb q with z | z
    · exact hji z
    · have := hj.lt; omega
  have hc1 : Chg (fun j => j ∈ nb :: jb :: iv.ownBlock.toList) w w1 := Chg.trans (G := fun j => j ∈ iv.ownBlock.toList) ((Chg.refl _ w).dn 1) (Chg.of_grown hg (fun k e => by rw [e]; simp)) (fun j q => Or.inl (List.mem_cons_of_mem _ (List.mem_cons_of_mem _ q)))
  refine ⟨n1, j1, n1.put0 v1, j1.far v1 hne, v1.ownBlock.toList, hfi, ⟨((n1.put0 v1).put1 kj).far _ (Ne.symm hne), ((j1.far v1 hne).far _ hne).put0 _, ?_⟩, ?_, ?_, hnn, hjj⟩
  · refine ItsAt.kept (F := fun j => j = nb ∨ j = jb) (w := w1) ⟨ho, rfl⟩ ((((Chg.refl _ w1).setCell (Or.inl (Or.inl rfl)) _).setCell (Or.inl (Or.inl rfl)) _).setCell (Or.inl (Or.inr rfl)) _) ?_
    rintro j q (rfl | rfl)
    · exact hnn q
    · exact hjj q
  · exact ((hc1.setCell (Or.inl List.mem_cons_self) _).setCell (Or.inl List.mem_cons_self) _).setCell (Or.inl (List.mem_cons_of_mem _ List.mem_cons_self)) _
  · cases v1.ownBlock <;> simp
set_option maxHeartbeats 4000000 in
theorem takeLeft_up {w : World} {nb jb gj cj n : Nat} {iv vb : Value} {k kj : Int} {r m rj mj : Nat} {pla plb : Option Addr} {is ia : List (Int × Int)} {fi : List Nat}
    (HN : Hid (Nb w nb iv k r m (.pointer (some ⟨jb, 0, none⟩)) vb)) (HJ : Hid (Nb w jb (.slice (some ⟨gj, 0, none⟩) n cj) kj rj mj (.pointer pla) (.pointer plb))) (HI : Hid (ItsAt w iv is fi)) (HIJ : Hid (OwnE EI w 0 (.slice (some ⟨gj, 0, none⟩) n cj) ia)) (HL : Hid (ia.length = n)) (hn0 : n ≠ 0)
    (hne : jb ≠ nb) (hni : Hid (nb ∉ fi)) (hji : Hid (jb ∉ fi)) (HZ : Hid (is.length + n ≤ 1000)) (Post : Ending → World → Prop)
    (Done : Hid (pla = none → plb = none → ∀ w' iv' fi', Up w' nb jb iv' (.pointer none) vb (.pointer none) (.pointer none) kj r m rj mj (is ++ ia) fi' → (∀ j ∈ fi', j ∈ fi ∨ j = w.heap.size) → Chg (fun j => j ∈ nb :: jb :: fi) w w' → (fi'.Nodup ∧ nb ∉ fi' ∧ jb ∉ fi') → Post (.returned (.tuple #[])) w'))
    (Deep : Hid ((pla.isSome || plb.isSome) = true → ∀ w' iv' fi', Up w' nb jb iv' (.pointer (some ⟨jb, 0, none⟩)) vb (.pointer pla) (.pointer plb) kj r m rj mj (is ++ ia) fi' → (∀ j ∈ fi', j ∈ fi ∨ j = w.heap.size) → Chg (fun j => j ∈ nb :: jb :: fi) w w' → (fi'.Nodup ∧ nb ∉ fi' ∧ jb ∉ fi') →
      Calls Tryd.prog 30 #[.pointer (some ⟨jb, 0, none⟩)] w' fun e w2 => e = .returned (.tuple #[]) ∧ Post (.returned (.tuple #[])) w2)) :
    Calls Tryd.prog 41 #[.pointer (some ⟨nb, 0, none⟩)] w Post := by
  obtain ⟨c0, c1, c2, c3, c4, c5⟩ := HN.out.cells
  obtain ⟨d0, d1, d2, d3, d4, d5⟩ := HJ.out.cells
  have HC : Hid (∀ j u, (EI.flat ia)[j]? = some u → (w.drewN 1).cell? ((⟨gj, 0, none⟩ : Addr).add j) = some u) := World.ownsRow.cells HIJ.out (g := gj) rfl
  obtain ⟨L, hL⟩ : ∃ L, (is ++ ia).length = L := ⟨_, rfl⟩
  have HLL : Hid ((is ++ ia).length = L) := hL
  clear hL
  go_enter Tryd.func41, Tryd.ntmps41
  go_wp2_with fail
  go_region_law
    ((refine step_appendR EI (by rfl) (.tmp 11) (.tmp 15) (by rfl) 0 iv is ia ⟨gj, 0, none⟩ n cj HL.out hn0 (by rfl) (OwnE.drewN HI.out.1 1) (by rfl) HC.out (by have := HZ.out; omega) (Nat.zero_le _) ?_; intro v1 w1 ho hg hb; obtain ⟨p1, q1, rfl⟩ : ∃ p q, v1 = .slice p L q := (by have := ho.form; rw [HLL.out] at this; exact this); obtain ⟨n1, j1, n2, j2, fi', hfi, hup, hchg, hnd⟩ := up_of HN.out HJ.out HI.out rfl hne hni.out hji.out ho hg hb; obtain ⟨x0, _⟩ := n1.cells; have xf := n1.fr 0; obtain ⟨_, y1, _⟩ := j1.cells; have HN2 : Hid _ := n2; have HJ2 : Hid _ := j2; clear ho hg hb n1 j1 n2 j2))
  all_goals
    obtain ⟨a0, a1, a2, a3, a4, a5⟩ := Nb.cells HN2.out
    obtain ⟨b0, b1, b2, b3, b4, b5⟩ := Nb.cells HJ2.out
    have af := Nb.fr HN2.out 1
    have bf := Nb.fr HJ2.out 0
    have CH := hasPart_any hup.out.part
    clear HN2 HJ2 HC c0 c1 c2 c3 c4 c5 d0 d1 d2 d3 d4 d5 x0 xf y1
    generalize w1.setCell ⟨nb, 0, none⟩ (.slice p1 L q1) = w2 at *
    cases hq : (pla.isSome || plb.isSome)
    · rw [hq] at CH
      obtain ⟨rfl, rfl⟩ : pla = none ∧ plb = none := by cases pla <;> cases plb <;> simp at hq ⊢
      have HD : Hid _ := Done.out rfl rfl
      clear Done
      have HCH : Hid (Calls Tryd.prog 29 #[.pointer (some ⟨jb, 0, none⟩)] ((w2.setCell ⟨nb, 1, none⟩ (.int .i64 kj)).setCell ⟨jb, 0, none⟩ (.slice none 0 0)) fun e w' => e = .returned (.bool false) ∧ w' = ((w2.setCell ⟨nb, 1, none⟩ (.int .i64 kj)).setCell ⟨jb, 0, none⟩ (.slice none 0 0))) := CH
      clear CH hq
      go_wp2_with fail
      refine HCH.out.mono ?_
      rintro e w3 ⟨rfl, hw3⟩
      rw [← hw3] at hup hchg
      obtain ⟨_, _, _, _, e4, _⟩ := hup.out.node.cells
      have ef := hup.out.node.fr 4
      clear hw3 HCH
      go_wp2
      refine bodyPost_ret (results_none rfl _ _ _) rfl ?_
      refine HD.out _ _ _ ⟨hup.out.node.put4 _, hup.out.part.far _ hne, ?_⟩ hfi.out (hchg.out.setCell (Or.inl List.mem_cons_self) _) hnd.out
      exact hup.out.items.kept (F := fun j => j = nb) ((Chg.refl (fun j => j = nb) w3).setCell (p := ⟨nb, 4, none⟩) (Or.inl rfl) _) (fun j q e => hnd.out.2.1 (e ▸ q))
    · rw [hq] at CH
      have HCH : Hid (Calls Tryd.prog 29 #[.pointer (some ⟨jb, 0, none⟩)] ((w2.setCell ⟨nb, 1, none⟩ (.int .i64 kj)).setCell ⟨jb, 0, none⟩ (.slice none 0 0)) fun e w' => e = .returned (.bool true) ∧ w' = ((w2.setCell ⟨nb, 1, none⟩ (.int .i64 kj)).setCell ⟨jb, 0, none⟩ (.slice none 0 0))) := CH
      have HD : Hid _ := Deep.out hq
      clear CH hq
      go_wp2_with fail
      refine HCH.out.mono ?_
      rintro e w3 ⟨rfl, hw3⟩
      rw [← hw3] at hup hchg
      clear hw3 HCH
      go_wp2_with fail
      refine (HD.out _ _ _ hup.out hfi.out hchg.out hnd.out).mono ?_
      rintro e w4 ⟨rfl, hpost⟩
      have HP : Hid _ := hpost
      clear hpost
      go_wp2
      refine bodyPost_ret (results_none rfl _ _ _) rfl ?_
      exact HP.out
#print axioms takeLeft_up
end Go.Proofs.YtdpfijhkbhmkgaaDoor
