/-
  Package huff: found.
-/
import Derived.Test.YtlaeaeciomkababDoorHuM
import Derived.Test.YtlaeaeciomkababDoorHuC
import Derived.Deep.RegionHeld3
namespace Go.Proofs.YtlaeaeciomkababDoor
open Go.RowKit Go.Sort Go.Proofs

theorem LLAt.pair {w : World} {v1 v2 : Value} {l1 l2 : List Int} (h1 : SlE EZ w v1 l1) (h2 : SlE EZ w v2 l2) (T : TypeId) (k : Nat) (hk : 2 ≤ k) : LLAt (w.alloc (.cells #[v1, v2] T)) (.slice (some ⟨w.heap.size, 0, none⟩) 2 k) [l1, l2] := by
  obtain ⟨p1, c1, rfl, hc1, _⟩ := id h1
  obtain ⟨p2, c2, rfl, hc2, _⟩ := id h2
  refine ⟨[(p1, l1.length, c1), (p2, l2.length, c2)], SlE.of_rd ⟨by simp, fun j u hu => ?_⟩ rfl hk, rfl, fun i s l' hs hl => ?_⟩
  · match j, hu with
    | 0, hu => cases hu; simp
    | 1, hu => cases hu; simp
    | j + 2, hu => simp [El.flat, EV, encV] at hu
  · match i, hs, hl with
    | 0, hs, hl =>
      cases hs; cases hl
      exact h1.below ((Below.refl _ w).alloc (Nat.le_refl _) _)
    | 1, hs, hl =>
      cases hs; cases hl
      exact h2.below ((Below.refl _ w).alloc (Nat.le_refl _) _)
    | i + 2, hs, _ => simp at hs
theorem cellU_step {f f' : List Nat} {W W' : World} {b i : Nat} {u : Value} (s : Step f f' W W') (hb : b ∉ f) (h : W.cell? ⟨b, i, none⟩ = some u) : W'.cell? ⟨b, i, none⟩ = some u := (World.cell?_of_block (a := ⟨b, i, none⟩) (s.chg.block b (lt_of_cellQ h) hb)).trans h
theorem cellU_below {W W' : World} {b i : Nat} {u : Value} (s : Below W.heap.size W W') (h : W.cell? ⟨b, i, none⟩ = some u) : W'.cell? ⟨b, i, none⟩ = some u := (World.cell?_of_block (a := ⟨b, i, none⟩) (s.block b (lt_of_cellQ h))).trans h
theorem frU_below {W W' : World} {b i : Nat} (s : Below W.heap.size W W') (h : b < W.heap.size) : W'.frozen? ⟨b, i, none⟩ = W.frozen? ⟨b, i, none⟩ := World.frozen?_of_block (a := ⟨b, i, none⟩) (s.block b h)
theorem addrU_ne {a b i k : Nat} (h : b ≠ a) : (⟨a, i, none⟩ : Addr) ≠ ⟨b, k, none⟩ := fun e => h (by injection e with e1; exact e1.symm)
theorem keepU3 {W : World} {q b i : Nat} {u v0 v1 v2 : Value} (h : W.cell? ⟨b, i, none⟩ = some u) (hne : b ≠ q) : (((W.setCell ⟨q, 0, none⟩ v0).setCell ⟨q, 1, none⟩ v1).setCell ⟨q, 2, none⟩ v2).cell? ⟨b, i, none⟩ = some u :=
  (World.cell?_setCell_other _ _ _ _ (addrU_ne hne)).trans ((World.cell?_setCell_other _ _ _ _ (addrU_ne hne)).trans ((World.cell?_setCell_other _ _ _ _ (addrU_ne hne)).trans h))
theorem setU3 {w : World} {q : Nat} {r0 r1 r2 : Value} (h0 : w.cell? ⟨q, 0, none⟩ = some r0) (h1 : w.cell? ⟨q, 1, none⟩ = some r1) (h2 : w.cell? ⟨q, 2, none⟩ = some r2) (v0 v1 v2 : Value) :
    (((w.setCell ⟨q, 0, none⟩ v0).setCell ⟨q, 1, none⟩ v1).setCell ⟨q, 2, none⟩ v2).cell? ⟨q, 0, none⟩ = some v0 ∧ (((w.setCell ⟨q, 0, none⟩ v0).setCell ⟨q, 1, none⟩ v1).setCell ⟨q, 2, none⟩ v2).cell? ⟨q, 1, none⟩ = some v1 ∧ (((w.setCell ⟨q, 0, none⟩ v0).setCell ⟨q, 1, none⟩ v1).setCell ⟨q, 2, none⟩ v2).cell? ⟨q, 2, none⟩ = some v2 :=
  ⟨(World.cell?_setCell_other _ _ _ _ (by simp)).trans ((World.cell?_setCell_other _ _ _ _ (by simp)).trans (World.cell?_setCell_same _ _ _ h0)),
   (World.cell?_setCell_other _ _ _ _ (by simp)).trans (World.cell?_setCell_same _ _ _ ((World.cell?_setCell_other _ _ _ _ (by simp)).trans h1)),
   World.cell?_setCell_same _ _ _ ((World.cell?_setCell_other _ _ _ _ (by simp)).trans ((World.cell?_setCell_other _ _ _ _ (by simp)).trans h2))⟩
theorem finSet {wz w5 : World} {q g5 : Nat} {LS : List Int} (hb : Below wz.heap.size wz w5) (hq : wz.heap.size ≤ q) (hr : RdE EZ w5 g5 0 LS) (hne : g5 ≠ q) (v0 v1 v2 : Value) :
    Below wz.heap.size wz (((w5.setCell ⟨q, 0, none⟩ v0).setCell ⟨q, 1, none⟩ v1).setCell ⟨q, 2, none⟩ v2) ∧ RdE EZ (((w5.setCell ⟨q, 0, none⟩ v0).setCell ⟨q, 1, none⟩ v1).setCell ⟨q, 2, none⟩ v2) g5 0 LS :=
  ⟨((hb.setCell (p := ⟨q, 0, none⟩) hq _).setCell (p := ⟨q, 1, none⟩) hq _).setCell (p := ⟨q, 2, none⟩) hq _,
   ((hr.block (by simp) (Below.heap_setCell _ _ _ _ hne)).block (by simp) (Below.heap_setCell _ _ _ _ hne)).block (by simp) (Below.heap_setCell _ _ _ _ hne)⟩
theorem SyAt.named {w : World} {lb : Nat} {f : List Nat} {s : Sv} {l : List Int} (h : SyAt w lb f s l) : ∃ b cp, s = (some ⟨b, 0, none⟩, l.length, cp) := by
  obtain ⟨b, cp, e, _⟩ := h
  exact ⟨b, cp, e⟩
def updU (tb : Int → Sv) (t : Int) (s : Sv) : Int → Sv := fun k => if k = t then s else tb k
theorem vU_put (tb : Int → Sv) (a t : Int) : vU tb (putU a t) = .agg #[.int .i64 a, .int .i64 t, .slice (tb t).1 (tb t).2.1 (tb t).2.2] := by
  unfold vU
  rw [turnU_val, turn_put]
  rfl
theorem vU_at (tb : Int → Sv) (x : Int × Int) {b : Addr} {n c : Nat} (h : tb (turnU x) = (some b, n, c)) : vU tb x = .agg #[.int .i64 x.2, .int .i64 (turnU x), .slice (some b) n c] := by
  unfold vU
  rw [turnU_val]
  simp only [h]
set_option maxHeartbeats 16000000 in
set_option maxRecDepth 100000 in
theorem found_any {w : World} {p : Option Addr} {n cap : Nat} {l : List Int} (h : SlE EZ w (.slice p n cap) l) (h0 : wrongC l 1000 = 0) :
    Calls Tryd.prog 26 #[.slice p n cap] w fun e w' => ∃ g c, e = .returned (.slice (some ⟨g, 0, none⟩) n c) ∧ n ≤ c ∧ RdE EZ w' g 0 (lensU (natL l)) ∧ w.heap.size ≤ g ∧ Below w.heap.size w w' := by
  obtain ⟨hpos, h40, hrng⟩ := wrongC_zero h0
  have hn := h.len.1
  obtain ⟨ws, hws⟩ : ∃ ws, natL l = ws := ⟨_, rfl⟩
  have hwl : ws.length = n := by rw [← hws, hn]; unfold natL; rw [List.length_map]
  have HX := hidp h
  have HN := hidp hn
  have HRNG := hidp hrng
  have HWS := hidp hws
  have HWL := hidp hwl
  have hn40 : n ≤ 40 := by omega
  have hn0 : 0 < n := by omega
  have hnz : (0 : Int) ≤ (n : Int) := by omega
  rw [hws]
  clear h h0 hpos h40 hrng hn hws hwl
  go_enter Tryd.func26, Tryd.ntmps26
  obtain ⟨i0, hi, hz0, hz1, hz2⟩ := EZ.infoE
  have hz2' : i0.bytes = 8 := hz2
  go_wp2_with (first | (at_make; refine wpList_make_full _ rfl (.tmp 16) (.tmp 16) 22 rfl w.heap.size 3 i0 (.int .i64 0) 1 Tryd.underlying22 hi hz0 hz1 .i64 .i64 _ _ n rfl rfl rfl rfl (by rw [hz2']; omega) (by unfold maxLen; omega) (Nat.le_refl _) ?_; intro w1 ho1 hg1; have hb1 : Below w.heap.size w w1 := (Below.refl _ _).grown hg1 (Nat.le_refl _) (fun k e => by cases e); obtain ⟨_, hw1⟩ := made_ints ho1 hn0; have HW1 := hidp hw1; have HB1 := hidp hb1; clear ho1 hg1 hw1 hb1) | (go_at_call 39; refine (newQU _).mono ?_; rintro e w' ⟨rfl, rfl⟩))
  have q0 := newQU_at (fun _ => (none, 0, 0)) w1
  have M0 : FdM w (w1.alloc (.cells #[.func (.func 40) #[] #[], .slice none 0 0] 113)) w.heap.size w1.heap.size (List.replicate n 0) #[] (fun _ => (none, 0, 0)) (fun t => [t]) [w1.heap.size] :=
    ⟨q0, by simp, HW1.out.below ((Below.refl _ w1).alloc (Nat.le_refl _) _) HW1.out.lt, by have := HW1.out.lt; simp; omega, fun j hj => by rw [List.mem_singleton.1 hj]; exact HB1.out.size, Nat.le_refl _, HB1.out.alloc HB1.out.size _, fun x hx => by simp at hx⟩
  have HM0 := hidp M0
  have HLQ : Hid (w.heap.size ≠ w1.heap.size) := by show _ ≠ _; have := HW1.out.lt; omega
  clear q0 M0 hi hz0 hz1 hz2 hz2' HW1 HB1
  generalize hlb : w.heap.size = lb at HM0 ⊢
  generalize hqb : w1.heap.size = qb at HM0 ⊢
  rw [hlb, hqb] at HLQ
  have HLB := hidp hlb
  clear hqb hlb
  generalize w1.alloc (.cells #[.func (.func 40) #[] #[], .slice none 0 0] 113) = w2 at HM0 ⊢
  go_loopg [21] n (fun g vi wr => ∃ (i : Nat), vi = .int .i64 i ∧ i + g = n ∧ ∃ d tb f, Hid (FdM w wr lb qb (List.replicate n 0) d tb (fun t => [t]) f) ∧ Hid (HuB ws i d))
  case atStart => exact ⟨0, rfl, by omega, #[], _, _, HM0, (show Hid _ from HuB.begin ws)⟩
  case round =>
    obtain ⟨i, rfl, hg, d, tb, f, HM, HU⟩ := hrel
    by_cases hlt : i < n
    · have hlz : (i : Int) < (n : Int) := by omega
      obtain ⟨x, hx⟩ : ∃ x, l[i]? = some x := ⟨_, List.getElem?_eq_getElem (by have := HN.out; omega)⟩
      obtain ⟨blk, off, rfl, _, _, hrd⟩ := (HX.out.below HM.out.below).some (by omega)
      obtain ⟨x0, x1⟩ := HRNG.out x (List.mem_of_getElem? hx)
      obtain ⟨a, rfl⟩ : ∃ a : Nat, x = a := ⟨x.toNat, by omega⟩
      have c0 := hrd.int hx
      have hwa : ws[i]? = some a := by
        rw [← HWS.out]; unfold natL
        rw [List.getElem?_map, hx]; simp
      have hU2 := HU.out.put hwa (by omega)
      have hba : Below wr.heap.size wr (wr.alloc (.cells #[.int .i64 i] 3)) := (Below.refl _ wr).alloc (Nat.le_refl _) _
      have hlbl : lb < wr.heap.size := HM.out.lens.lt
      have hM1 := (HM.out.below' hba).table (tb' := updU tb i (some ⟨wr.heap.size, 0, none⟩, 1, 1)) (sy' := fun t => [t]) (fun x hx => by
        have := (HU.out.good x hx).2.2
        unfold updU; rw [if_neg (by omega)]) (fun _ _ => rfl)
      have hsy : SyAt (wr.alloc (.cells #[.int .i64 i] 3)) lb f (updU tb i (some ⟨wr.heap.size, 0, none⟩, 1, 1) (turnU (putU a i))) (syZ (fun t => [t]) (putU a i)) := by
        refine ⟨wr.heap.size, 1, ?_, ?_, ?_, fun q => Nat.lt_irrefl _ (HM.out.lt _ q), by omega⟩
        · rw [turn_put]; unfold updU; rw [if_pos rfl]; simp [syZ]
        · simp [syZ]
        · have := (new_nums wr [(i : Int)] 3 1 1 rfl (Nat.le_refl _)).some (by omega)
          obtain ⟨b', o', e', _, _, hr'⟩ := this
          simp only [Option.some.injEq, Addr.mk.injEq] at e'
          obtain ⟨rfl, rfl, _⟩ := e'
          simp only [syZ, turn_put, Int.toNat_natCast, List.map_cons, List.map_nil]
          exact hr'
      have CP := fd_push (c := i) (x := putU a i) hM1 (by rw [HU.out.size]; omega) (by omega) HU.out.good (by
        refine ⟨Int.natCast_nonneg _, ?_, ?_⟩
        · rw [turn_put]; exact Int.natCast_nonneg _
        · rw [turn_put]; omega) hsy
      rw [vU_put] at CP
      have e1 : updU tb i (some ⟨wr.heap.size, 0, none⟩, 1, 1) (i : Int) = (some ⟨wr.heap.size, 0, none⟩, 1, 1) := by unfold updU; rw [if_pos rfl]
      rw [e1] at CP
      have HCP := hidp CP
      have HU2 := hidp hU2
      clear hx hrd hwa hU2 hba hlbl hM1 hsy CP e1
      go_wp2_with (go_at_call 41; refine HCP.out.mono ?_; rintro e w3 ⟨rfl, f', m3, s3⟩; have HM3 := hidp m3; clear m3 s3)
      go_roundg (n - (i + 1))
      case measure => omega
      case rel => exact ⟨i + 1, by go_num, by omega, _, _, f', HM3, HU2⟩
    · have hlz : ¬ (i : Int) < (n : Int) := by omega
      obtain rfl : i = n := by omega
      have hP := (show HuB ws ws.length d by rw [HWL.out]; exact HU.out).ready (by rw [HWL.out]; exact hn0) (by rw [HWL.out]; exact hn40)
      rw [HWL.out] at hP
      have HP0 := hidp hP
      clear hP HU
      go_wp2
      go_loopg [7] i (fun g vt wr => ∃ (c : Nat), vt = .int .i64 c ∧ c + g = 2 * i ∧ c ≤ 2 * i ∧ ∃ d tb sy L f, Hid (FdM w wr lb qb L d tb sy f) ∧ Hid (HuP i (lenU ws) c d sy L))
      case atStart => exact ⟨i, rfl, by omega, by omega, d, tb, _, _, f, HM, HP0⟩
      case round =>
        clear HM HP0
        obtain ⟨c, rfl, hg, hc2, d, tb, sy, L, f, HM, HP⟩ := hrel
        have HCM := hidp (fd_many HM.out)
        by_cases h1 : 1 < d.size
        · have h1z : (1 : Int) < (d.size : Int) := by omega
          have hcnt := HP.out.cnt
          obtain ⟨_, hp0⟩ := HP.out.two h1
          obtain ⟨wa, wb, wab⟩ := HP.out.weights h1
          have hst := HP.out.step h1 hn40
          have CP1 := fd_pop (c := c) HM.out HP.out.pos (by omega) (by omega) HP.out.good
          have hg2 : ∀ x ∈ (hpop d).toList, GoodU c x := fun x hx => HP.out.good x (pop_mem HP.out.pos hx)
          have hs2 : (hpop d).size ≤ 500 := by rw [hpop_size]; omega
          have CP2 := fun W f' (m : FdM w W lb qb L (hpop d) tb sy f') => fd_pop (c := c) m hp0 hs2 (by omega) hg2
          have hfr := HP.out.fresh h1
          have hsh := HP.out.short h1
          have hval := HP.out.value h1
          have hma := HM.out.syms _ (top_mem HP.out.pos)
          have hmb := HM.out.syms _ (pop_mem HP.out.pos (top_mem hp0))
          have hta := (HP.out.good _ (top_mem HP.out.pos)).2
          have htb := (HP.out.good _ (pop_mem HP.out.pos (top_mem hp0))).2
          obtain ⟨a, ha⟩ : ∃ a, d[0]! = a := ⟨_, rfl⟩
          obtain ⟨b, hb⟩ : ∃ b, (hpop d)[0]! = b := ⟨_, rfl⟩
          rw [ha] at wa wab hst CP1 hfr hsh hval hma hta
          rw [hb] at wb wab hst hfr hsh hval hmb htb
          simp only [hb] at CP2
          obtain ⟨ba, ca, eA⟩ := hma.named
          obtain ⟨bb, cb, eB⟩ := hmb.named
          obtain ⟨na, hna⟩ : ∃ na, (syZ sy a).length = na := ⟨_, rfl⟩
          obtain ⟨nb, hnb⟩ : ∃ nb, (syZ sy b).length = nb := ⟨_, rfl⟩
          rw [hna] at eA
          rw [hnb] at eB
          rw [vU_at tb a eA] at CP1
          simp only [vU_at tb b eB] at CP2
          obtain ⟨va, hva⟩ : ∃ va, a.2 = va := ⟨_, rfl⟩
          obtain ⟨vb, hvb⟩ : ∃ vb, b.2 = vb := ⟨_, rfl⟩
          obtain ⟨ta, hta2⟩ : ∃ ta, turnU a = ta := ⟨_, rfl⟩
          obtain ⟨tb2, htb2⟩ : ∃ tb2, turnU b = tb2 := ⟨_, rfl⟩
          rw [hva] at wa wab hst CP1
          rw [hvb] at wb wab hst
          simp only [hvb] at CP2
          rw [hta2] at CP1 eA hst hfr hsh hval
          rw [htb2] at eB hst hfr hsh hval
          simp only [htb2] at CP2
          have hwr : IntKind.i64.wrap (va + vb) = va + vb := by rw [IntKind.wrap_i64]; omega
          have HEA := hidp eA
          have HEB := hidp eB
          have hab : [syZ sy a, syZ sy b].flatten = (sy ta.toNat ++ sy tb2.toNat).map fun s : Nat => (s : Int) := by
            simp only [List.flatten_cons, List.flatten_nil, List.append_nil, List.map_append]
            unfold syZ; rw [hta2, htb2]
          obtain ⟨S, hS⟩ : ∃ S, sy ta.toNat ++ sy tb2.toNat = S := ⟨_, rfl⟩
          rw [hS] at hst hfr hsh hval hab
          have HVAL := hidp hval
          have HLL := hidp HP.out.len
          have HS := hidp hS
          obtain ⟨m, hm⟩ : ∃ m, S.length = m := ⟨_, rfl⟩
          rw [hm] at hsh
          obtain ⟨hm40, hm0⟩ := hsh
          have HM0 := hidp hm
          have HAB := hidp hab
          have HF0 : Hid (0 < [syZ sy a, syZ sy b].flatten.length) := by show _ < _; rw [hab, List.length_map, hm]; exact hm0
          have HF1 : Hid ([syZ sy a, syZ sy b].flatten.length ≤ 1000) := by show _ ≤ _; rw [hab, List.length_map, hm]; omega
          have HST := hidp hst
          have HCP1 := hidp CP1
          have HCP2 := hidp CP2
          have HFR := hidp hfr
          have HF2 : Hid ([syZ sy a, syZ sy b].length ≤ 1000) := by show 2 ≤ 1000; omega
          have HSA : Hid (syZ sy a = (sy ta.toNat).map fun s : Nat => (s : Int)) := by show _ = _; unfold syZ; rw [hta2]
          have HSB : Hid (syZ sy b = (sy tb2.toNat).map fun s : Nat => (s : Int)) := by show _ = _; unfold syZ; rw [htb2]
          have HNA := hidp hna
          have HNB := hidp hnb
          have HCNT := hidp hcnt
          have HGR : Hid (∀ x ∈ (hpop (hpop d)).toList, GoodU c x) := fun x hx => hg2 x (pop_mem hp0 hx)
          clear hst CP1 CP2 hfr hS hval hm hab hma hmb eA eB hna hnb hva hvb hta2 htb2 ha hb hg2 hs2 hp0 hta htb
          have hc999 : c ≤ 998 := by omega
          have h1d : decide ((1 : Int) < (d.size : Int)) = true := decide_eq_true h1z
          clear hcnt
          go_wp2_with (first | (go_at_call 42; refine HCM.out.mono ?_; rintro e w' ⟨rfl, rfl⟩) | (go_at_call 43; refine (HCP2.out _ f1 m1).mono ?_; rintro e w4 ⟨rfl, f2, m2, y2, s2⟩; have y1b := y1.step s2; have xa0 := cellU_step s2 nb1 xb0; have xa2 := cellU_step s2 nb1 xb2; have HY1 := hidp y1b; have HY2 := hidp y2; have HM2 := hidp m2; clear m1 y1 s2 nb1 xb0 xb2 m2 y2 y1b) | (go_at_call 43; refine HCP1.out.mono ?_; rintro e w3 ⟨rfl, f1, m1', y1', s1⟩; have bx1 := (Below.refl _ w3).alloc (Nat.le_refl _) (.cells #[.int .i64 va, .int .i64 ta, .slice (some ⟨ba, 0, none⟩) na ca] 74); have m1 := m1'.below' bx1; have y1 := y1'.below bx1; have nb1 : w3.heap.size ∉ f1 := fun q => Nat.lt_irrefl _ (m1'.lt _ q); have xb0 : (w3.alloc (.cells #[.int .i64 va, .int .i64 ta, .slice (some ⟨ba, 0, none⟩) na ca] 74)).cell? ⟨w3.heap.size, 0, none⟩ = some (.int .i64 va) := (by simp); have xb2 : (w3.alloc (.cells #[.int .i64 va, .int .i64 ta, .slice (some ⟨ba, 0, none⟩) na ca] 74)).cell? ⟨w3.heap.size, 2, none⟩ = some (.slice (some ⟨ba, 0, none⟩) na ca) := (by simp); clear m1' y1' s1 bx1))
          have hbz := (Below.refl _ w4).alloc (Nat.le_refl _) (.cells #[.int .i64 vb, .int .i64 tb2, .slice (some ⟨bb, 0, none⟩) nb cb] 74)
          have xb0 : (w4.alloc (.cells #[.int .i64 vb, .int .i64 tb2, .slice (some ⟨bb, 0, none⟩) nb cb] 74)).cell? ⟨w4.heap.size, 0, none⟩ = some (.int .i64 vb) := by simp
          have xb2 : (w4.alloc (.cells #[.int .i64 vb, .int .i64 tb2, .slice (some ⟨bb, 0, none⟩) nb cb] 74)).cell? ⟨w4.heap.size, 2, none⟩ = some (.slice (some ⟨bb, 0, none⟩) nb cb) := by simp
          have ya0 := cellU_below hbz xa0
          have ya2 := cellU_below hbz xa2
          have HZ := hidp (HM2.out.below' hbz)
          have hz1 := (HY1.out.below hbz).sl
          have hz2 := (HY2.out.below hbz).sl
          rw [HEA.out] at hz1
          rw [HEB.out] at hz2
          clear HY1 HY2 HM2 xa0 xa2 hbz
          generalize w4.alloc (.cells #[.int .i64 vb, .int .i64 tb2, .slice (some ⟨bb, 0, none⟩) nb cb] 74) = wz at xb0 xb2 ya0 ya2 HZ hz1 hz2 ⊢
          generalize w4.heap.size = bz at xb0 xb2 ⊢
          generalize w3.heap.size = az at ya0 ya2 ⊢
          have LP : Hid (∀ W, Below wz.heap.size wz W → LLAt (W.alloc (.cells #[.slice (some ⟨ba, 0, none⟩) na ca, .slice (some ⟨bb, 0, none⟩) nb cb] 22)) (.slice (some ⟨W.heap.size, 0, none⟩) 2 2) [syZ sy a, syZ sy b]) := fun W hW => LLAt.pair (hz1.below hW) (hz2.below hW) _ 2 (Nat.le_refl _)
          have LPB : Hid (∀ o, LLAt ((wz.alloc o).alloc (.cells #[.slice (some ⟨ba, 0, none⟩) na ca, .slice (some ⟨bb, 0, none⟩) nb cb] 22)) (.slice (some ⟨wz.heap.size + 1, 0, none⟩) 2 2) [syZ sy a, syZ sy b]) := fun o => by
            have := LP.out (wz.alloc o) ((Below.refl _ wz).alloc (Nat.le_refl _) _)
            rw [World.size_alloc] at this
            exact this
          clear hz1 hz2
          have hlz2 : lb < wz.heap.size := HZ.out.lens.lt
          have haz := lt_of_cellQ ya0
          have hbz2 := lt_of_cellQ xb0
          go_wp2_with fail
          go_region_held3 (fun w' => w'.cell? ⟨az, 0, none⟩ = some (.int .i64 va) ∧ w'.cell? ⟨az, 2, none⟩ = some (.slice (some ⟨ba, 0, none⟩) na ca) ∧ w'.cell? ⟨bz, 0, none⟩ = some (.int .i64 vb) ∧ w'.cell? ⟨bz, 2, none⟩ = some (.slice (some ⟨bb, 0, none⟩) nb cb)) (first | go_keep | (exact ⟨j0, j1, j2, j3⟩) | (exact ⟨keepU3 (by first | exact j0 | exact cellU_below ((Below.refl _ _).alloc (Nat.le_refl _) _) j0) (by omega), keepU3 (by first | exact j1 | exact cellU_below ((Below.refl _ _).alloc (Nat.le_refl _) _) j1) (by omega), keepU3 (by first | exact j2 | exact cellU_below ((Below.refl _ _).alloc (Nat.le_refl _) _) j2) (by omega), keepU3 (by first | exact j3 | exact cellU_below ((Below.refl _ _).alloc (Nat.le_refl _) _) j3) (by omega)⟩)) (first | (go_at_call 44; refine (concat_z (ls := [syZ sy a, syZ sy b]) ?_ HF0.out HF1.out HF2.out).mono ?_; (first | exact (LP.out wz (Below.refl _ _)).below (below_drewN (Below.refl _ _) 1) | exact (LPB.out _).below (below_drewN (Below.refl _ _) 1) | exact (LP.out wz (Below.refl _ _)).below (below_drewN ((Below.refl _ _).alloc (Nat.le_refl _) _) 1)); rintro e w5 ⟨v5, rfl, o5, b5⟩; rw [HAB.out] at o5; obtain ⟨g5, c5, rfl, hge5, hgc5, hr5, _⟩ := OwnE.some o5 (n := m) (by rw [List.length_map]; exact HM0.out) hm0; have hbc : Below wz.heap.size wz w5 := (by first | exact Below.trans (below_drewN ((Below.refl _ wz).alloc (Nat.le_refl _) _) 1) (b5.mono (by simp)) | exact Below.trans (below_drewN (((Below.refl _ wz).alloc (Nat.le_refl _) _).alloc (by simp) _) 1) (b5.mono (by simp; omega))); have j0 := cellU_below hbc ya0; have j1 := cellU_below hbc ya2; have j2 := cellU_below hbc xb0; have j3 := cellU_below hbc xb2; have h5s := hbc.size; have z0 := fun h => cellU_below (i := 0) (b := wz.heap.size) (u := .int .i64 0) b5 h; simp at z0; have zf0 := fun h => frU_below (i := 0) (b := wz.heap.size) b5 h; simp at zf0; have z1 := fun h => cellU_below (i := 1) (b := wz.heap.size) (u := .int .i64 0) b5 h; simp at z1; have zf1 := fun h => frU_below (i := 1) (b := wz.heap.size) b5 h; simp at zf1; have z2 := fun h => cellU_below (i := 2) (b := wz.heap.size) (u := .slice none 0 0) b5 h; simp at z2; have zf2 := fun h => frU_below (i := 2) (b := wz.heap.size) b5 h; simp at zf2; have y0 := fun h => cellU_below (i := 0) (b := (wz.heap.size + 1)) (u := .int .i64 0) b5 h; simp at y0; have yf0 := fun h => frU_below (i := 0) (b := (wz.heap.size + 1)) b5 h; simp at yf0; have y1 := fun h => cellU_below (i := 1) (b := (wz.heap.size + 1)) (u := .int .i64 0) b5 h; simp at y1; have yf1 := fun h => frU_below (i := 1) (b := (wz.heap.size + 1)) b5 h; simp at yf1; have y2 := fun h => cellU_below (i := 2) (b := (wz.heap.size + 1)) (u := .slice none 0 0) b5 h; simp at y2; have yf2 := fun h => frU_below (i := 2) (b := (wz.heap.size + 1)) b5 h; simp at yf2; have HR5 := hidp hr5; have HG5 := hidp (Nat.le_trans b5.size (Nat.le_refl _)); have HGE := hidp hge5; have HB5 := hidp hbc; clear o5 b5 hbc hr5 hge5))
          all_goals
            first
              | (have q5 := z0; rw [z0] at q5; have hge : wz.heap.size + 2 ≤ g5 := (by have := HGE.out; simp at this; omega); obtain ⟨x0, x1, x2⟩ := setU3 z0 z1 z2 (.int .i64 (va + vb)) (.int .i64 c) (.slice (some ⟨g5, 0, none⟩) m c5); obtain ⟨hb7, hr7⟩ := finSet HB5.out (show wz.heap.size ≤ wz.heap.size by omega) HR5.out (show g5 ≠ wz.heap.size by omega) (.int .i64 (va + vb)) (.int .i64 c) (.slice (some ⟨g5, 0, none⟩) m c5); have hbx : lb ≠ wz.heap.size := (by omega); generalize ((w5.setCell ⟨wz.heap.size, 0, none⟩ (.int .i64 (va + vb))).setCell ⟨wz.heap.size, 1, none⟩ (.int .i64 c)).setCell ⟨wz.heap.size, 2, none⟩ (.slice (some ⟨g5, 0, none⟩) m c5) = w7 at x0 x1 x2 hb7 hr7 ⊢; generalize hqq : wz.heap.size = bx at x0 x1 x2 hbx ⊢; have hgl : g5 ≠ lb := (by omega); have hgf : g5 ∉ f2 := (fun q => by have := HZ.out.lt _ q; omega); clear hqq q5)
              | (have q5 := y0; rw [y0] at q5; have hge : wz.heap.size + 2 ≤ g5 := (by have := HGE.out; simp at this; omega); obtain ⟨x0, x1, x2⟩ := setU3 y0 y1 y2 (.int .i64 (va + vb)) (.int .i64 c) (.slice (some ⟨g5, 0, none⟩) m c5); obtain ⟨hb7, hr7⟩ := finSet HB5.out (show wz.heap.size ≤ wz.heap.size + 1 by omega) HR5.out (show g5 ≠ wz.heap.size + 1 by omega) (.int .i64 (va + vb)) (.int .i64 c) (.slice (some ⟨g5, 0, none⟩) m c5); have hbx : lb ≠ wz.heap.size + 1 := (by omega); generalize ((w5.setCell ⟨wz.heap.size + 1, 0, none⟩ (.int .i64 (va + vb))).setCell ⟨wz.heap.size + 1, 1, none⟩ (.int .i64 c)).setCell ⟨wz.heap.size + 1, 2, none⟩ (.slice (some ⟨g5, 0, none⟩) m c5) = w7 at x0 x1 x2 hb7 hr7 ⊢; generalize hqq : wz.heap.size + 1 = bx at x0 x1 x2 hbx ⊢; have hgl : g5 ≠ lb := (by omega); have hgf : g5 ∉ f2 := (fun q => by have := HZ.out.lt _ q; omega); clear hqq q5)
              | (have hge : wz.heap.size + 1 ≤ g5 := (by have := HGE.out; simp at this; omega); have x0 : (w5.alloc (.cells #[.int .i64 (va + vb), .int .i64 c, .slice (some ⟨g5, 0, none⟩) m c5] 74)).cell? ⟨w5.heap.size, 0, none⟩ = some (.int .i64 (va + vb)) := (by simp); have x1 : (w5.alloc (.cells #[.int .i64 (va + vb), .int .i64 c, .slice (some ⟨g5, 0, none⟩) m c5] 74)).cell? ⟨w5.heap.size, 1, none⟩ = some (.int .i64 c) := (by simp); have x2 : (w5.alloc (.cells #[.int .i64 (va + vb), .int .i64 c, .slice (some ⟨g5, 0, none⟩) m c5] 74)).cell? ⟨w5.heap.size, 2, none⟩ = some (.slice (some ⟨g5, 0, none⟩) m c5) := (by simp); have hb7 : Below wz.heap.size wz (w5.alloc (.cells #[.int .i64 (va + vb), .int .i64 c, .slice (some ⟨g5, 0, none⟩) m c5] 74)) := HB5.out.alloc HB5.out.size _; have hr7 : RdE EZ (w5.alloc (.cells #[.int .i64 (va + vb), .int .i64 c, .slice (some ⟨g5, 0, none⟩) m c5] 74)) g5 0 (S.map fun s : Nat => (s : Int)) := HR5.out.below ((Below.refl _ w5).alloc (Nat.le_refl _) _) HR5.out.1; have hbx : lb ≠ w5.heap.size := (by have := HB5.out.size; omega); generalize w5.alloc (.cells #[.int .i64 (va + vb), .int .i64 c, .slice (some ⟨g5, 0, none⟩) m c5] 74) = w7 at x0 x1 x2 hb7 hr7 ⊢; have hgl : g5 ≠ lb := (by omega); have hgf : g5 ∉ f2 := (fun q => by have := HZ.out.lt _ q; omega); generalize w5.heap.size = bx at x0 x1 x2 hbx ⊢)
          all_goals
            have HM7 := hidp (HZ.out.below' hb7)
            have HR7 := hidp hr7
            have HGF := hidp hgf
            have HLM : Hid ((S.map fun s : Nat => (s : Int)).length = m) := by show _ = _; rw [List.length_map]; exact HM0.out
            clear hb7 hr7 hgf ya0 ya2 xb0 xb2 haz hbz2 hlz2
            clear LP LPB HZ HR5 HG5 HGE HB5 HF0 HF1 HF2 HAB
            go_wp2
            go_loopg [67] m (fun gg vj wr => ∃ j : Nat, vj = .int .i64 j ∧ j + gg = m ∧ Hid (FdM w wr lb qb (bump L (S.take j)) (hpop (hpop d)) tb sy f2) ∧ Hid (RdE EZ wr g5 0 (S.map fun s : Nat => (s : Int))) ∧ Hid (wr.cell? ⟨bx, 0, none⟩ = some (.int .i64 (va + vb)) ∧ wr.cell? ⟨bx, 1, none⟩ = some (.int .i64 c) ∧ wr.cell? ⟨bx, 2, none⟩ = some (.slice (some ⟨g5, 0, none⟩) m c5)))
            case atStart => exact ⟨0, rfl, by omega, HM7, HR7, (show Hid _ from ⟨x0, x1, x2⟩)⟩
            case round =>
              clear x0 x1 x2 HM7 HR7
              obtain ⟨j, rfl, hgj, HMJ, HRJ, HXJ⟩ := hrel
              by_cases hjm : j < m
              · have hjz : (j : Int) < (m : Int) := by omega
                obtain ⟨s, hs⟩ : ∃ s, S[j]? = some s := ⟨_, List.getElem?_eq_getElem (by have := HM0.out; omega)⟩
                have hsm := List.mem_of_getElem? hs
                have hsi : s < i := HFR.out.2 s hsm
                have hc1 : wr.cell? ⟨g5, j, none⟩ = some (.int .i64 s) := by
                  have := HRJ.out.int (i := j) (k := (s : Int)) (by rw [List.getElem?_map, hs]; rfl)
                  rw [Nat.zero_add] at this
                  exact this
                obtain ⟨k, hk1, hk2⟩ := HVAL.out s hsm
                have hk3 : k ≤ 40 := by
                  have := (lenU_fact (ws := ws) (by rw [HWL.out]; exact hn0)).2.1 s (by rw [HWL.out]; exact hsi)
                  have := HWL.out
                  omega
                have hat := bump_at (L := L) HFR.out.1 (fun t ht => by rw [HLL.out]; exact HFR.out.2 t ht) hs
                rw [hk1] at hat
                have hnx := bump_next hs hat
                obtain ⟨hcl, hfl⟩ := HMJ.out.lens.int hat
                have hlen : s < (bump L (S.take j)).length := (List.getElem?_eq_some_iff.1 hat).1
                have hM8 := HMJ.out.set hlen ((k : Int) + 1)
                rw [← hnx] at hM8
                have HM8 := hidp hM8
                have hlbw := HMJ.out.lens.lt
                have hsz : (s : Int) < (i : Int) := by omega
                have hkw : IntKind.i64.wrap ((k : Int) + 1) = (k : Int) + 1 := by rw [IntKind.wrap_i64]; omega
                have HR8 : Hid (RdE EZ (wr.setCell ⟨lb, s, none⟩ (.int .i64 ((k : Int) + 1))) g5 0 (S.map fun s : Nat => (s : Int))) := HRJ.out.block (by simp) (Below.heap_setCell _ _ _ _ hgl)
                have HX8 : Hid ((wr.setCell ⟨lb, s, none⟩ (.int .i64 ((k : Int) + 1))).cell? ⟨bx, 0, none⟩ = some (.int .i64 (va + vb)) ∧ (wr.setCell ⟨lb, s, none⟩ (.int .i64 ((k : Int) + 1))).cell? ⟨bx, 1, none⟩ = some (.int .i64 c) ∧ (wr.setCell ⟨lb, s, none⟩ (.int .i64 ((k : Int) + 1))).cell? ⟨bx, 2, none⟩ = some (.slice (some ⟨g5, 0, none⟩) m c5)) :=
                  ⟨(World.cell?_setCell_other _ _ _ _ (addrU_ne (fun e => hbx e.symm))).trans HXJ.out.1, (World.cell?_setCell_other _ _ _ _ (addrU_ne (fun e => hbx e.symm))).trans HXJ.out.2.1, (World.cell?_setCell_other _ _ _ _ (addrU_ne (fun e => hbx e.symm))).trans HXJ.out.2.2⟩
                clear hs hsm hsi hk1 hk2 hat hnx hlen hM8
                go_wp2
                go_roundg (m - (j + 1))
                case measure => omega
                case rel => exact ⟨j + 1, by go_num, by omega, HM8, HR8, HX8⟩
              · have hjz : ¬ (j : Int) < (m : Int) := by omega
                obtain ⟨x0, x1, x2⟩ := HXJ.out
                have ht : S.take j = S := List.take_of_length_le (by have := HM0.out; omega)
                have hM9 := HMJ.out
                rw [ht] at hM9
                have hM9' := hM9.table (tb' := updU tb c (some ⟨g5, 0, none⟩, m, c5)) (sy' := fun t => if t = c then S else sy t) (fun x hx => by
                  have := (HGR.out x hx).2.2
                  unfold updU; rw [if_neg (by omega)]) (fun x hx => by
                  have := (HGR.out x hx).2
                  show (if (turnU x).toNat = c then S else sy (turnU x).toNat) = _
                  rw [if_neg (by omega)])
                have hsy : SyAt wr lb f2 (updU tb c (some ⟨g5, 0, none⟩, m, c5) (turnU (putU (va + vb) c))) (syZ (fun t => if t = c then S else sy t) (putU (va + vb) c)) := by
                  have esy : syZ (fun t => if t = c then S else sy t) (putU (va + vb) c) = S.map fun s : Nat => (s : Int) := by
                    unfold syZ
                    rw [turn_put, Int.toNat_natCast]
                    simp
                  rw [esy]
                  refine ⟨g5, c5, ?_, by rw [HLM.out]; exact hgc5, HRJ.out, HGF.out, hgl⟩
                  unfold updU
                  rw [turn_put, if_pos rfl, HLM.out]
                have CP := fd_push (c := c) (x := putU (va + vb) c) hM9' (by rw [hpop_size, hpop_size]; have := HCNT.out; omega) hc999 HGR.out (by
                  refine ⟨Int.add_nonneg wa wb, ?_, ?_⟩
                  · rw [turn_put]; exact Int.natCast_nonneg _
                  · rw [turn_put]; omega) hsy
                rw [vU_put] at CP
                have e1 : updU tb c (some ⟨g5, 0, none⟩, m, c5) (c : Int) = (some ⟨g5, 0, none⟩, m, c5) := by unfold updU; rw [if_pos rfl]
                rw [e1] at CP
                have HCP := hidp CP
                clear ht hM9 hM9' hsy CP e1 HMJ HRJ HXJ
                go_wp2_with (go_at_call 41; refine HCP.out.mono ?_; rintro e w8 ⟨rfl, f8, m8, s8⟩; have HM8 := hidp m8; clear m8 s8)
                have hcc : c + 1 ≤ 2 * i := by have := HCNT.out; omega
                go_roundg (2 * i - (c + 1))
                case measure => omega
                case rel => exact ⟨c + 1, by go_num, by omega, by have := HCNT.out; omega, _, _, _, _, f8, HM8, HST⟩
        · have h1z : ¬ (1 : Int) < (d.size : Int) := by omega
          have HD := hidp (HP.out.done h1)
          go_wp2_with (go_at_call 42; refine HCM.out.mono ?_; rintro e w' ⟨rfl, rfl⟩)
          go_ret
          refine ⟨lb, i, rfl, Nat.le_refl _, ?_, by rw [HLB.out]; exact Nat.le_refl _, HM.out.below⟩
          have := HM.out.lens.rd
          rw [HD.out] at this
          have e : lensU ws = (List.range i).map fun s => (lenU ws s : Int) := by unfold lensU; rw [HWL.out]
          rw [e]
          exact this
end Go.Proofs.YtlaeaeciomkababDoor
