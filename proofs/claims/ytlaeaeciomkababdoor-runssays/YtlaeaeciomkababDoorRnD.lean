/-
  Package runs: made.
-/
import Derived.Test.YtlaeaeciomkababDoorRnM
namespace Go.Proofs.YtlaeaeciomkababDoor
open Go.RowKit Go.Sort Go.Proofs
attribute [local go_sem] Oper.semAt_some

theorem Step.side {f g : List Nat} {a b c : World} {F : Nat → Prop} (s : Step f g a b) (hc : Chg F b c) (hF : ∀ j, F j → a.heap.size ≤ j) : Step f g a c :=
  ⟨s.nodup, s.sub, s.chg.trans hc fun j q => Or.inr (hF j q)⟩
/-- A cell of a box that is none of theirs. -/
theorem cell_step {f f' : List Nat} {W W' : World} {b i : Nat} {u : Value} (s : Step f f' W W') (hb : b ∉ f) (h : W.cell? ⟨b, i, none⟩ = some u) : W'.cell? ⟨b, i, none⟩ = some u := (World.cell?_of_block (a := ⟨b, i, none⟩) (s.chg.block b (lt_of_cellQ h) hb)).trans h
theorem frozen_step {f f' : List Nat} {W W' : World} {b i : Nat} {u : Bool} (s : Step f f' W W') (hb : b ∉ f) (hl : b < W.heap.size) (h : W.frozen? ⟨b, i, none⟩ = u) : W'.frozen? ⟨b, i, none⟩ = u := (World.frozen?_of_block (a := ⟨b, i, none⟩) (s.chg.block b hl hb)).trans h
theorem notin_step {f f' : List Nat} {W W' : World} {b : Nat} (s : Step f f' W W') (hb : b ∉ f) (hl : b < W.heap.size) : b ∉ f' := fun q => by
  rcases s.sub b q with z | z
  · exact hb z
  · omega
theorem cell_chg {F : Nat → Prop} {W W' : World} {b i : Nat} {u : Value} (c : Chg F W W') (hb : ¬ F b) (h : W.cell? ⟨b, i, none⟩ = some u) : W'.cell? ⟨b, i, none⟩ = some u := (World.cell?_of_block (a := ⟨b, i, none⟩) (c.block b (lt_of_cellQ h) hb)).trans h
theorem frozen_chg {F : Nat → Prop} {W W' : World} {b i : Nat} {u : Bool} (c : Chg F W W') (hb : ¬ F b) (hl : b < W.heap.size) (h : W.frozen? ⟨b, i, none⟩ = u) : W'.frozen? ⟨b, i, none⟩ = u := (World.frozen?_of_block (a := ⟨b, i, none⟩) (c.block b hl hb)).trans h
theorem chg_new {W : World} {F : Nat → Prop} (o : Obj) : Chg F W (W.alloc o) := (Chg.refl F W).alloc o
theorem chg_one (W : World) (b i : Nat) (u : Value) : Chg (fun x => x = b) W (W.setCell ⟨b, i, none⟩ u) := (Chg.refl (fun x => x = b) W).setCell (p := ⟨b, i, none⟩) (Or.inl rfl) u
theorem chg_two (W : World) (b i k : Nat) (u v : Value) : Chg (fun x => x = b) W ((W.setCell ⟨b, i, none⟩ u).setCell ⟨b, k, none⟩ v) := (chg_one W b i u).setCell (p := ⟨b, k, none⟩) (Or.inl rfl) v
theorem addr_ne {a b i k : Nat} (h : a ≠ b ∨ i ≠ k) : (⟨a, i, none⟩ : Addr) ≠ ⟨b, k, none⟩ := fun e => by
  injection e with e1 e2
  omega
theorem notin_lt {f : List Nat} {W : World} {b : Nat} (h : ∀ j ∈ f, j < W.heap.size) (hb : W.heap.size ≤ b) : b ∉ f := fun q => by have := h b q; omega
/-- Blocks that are no cells, and lie behind, are none of theirs. -/
theorem own_out {B : Nat} {W W' : World} {row : Option Nat} (hg : W.grownBy W' row) (hr : ∀ r, row = some r → B ≤ r ∧ ∃ o : Obj, W.heap[r]? = some o ∧ o.isCells = false) : Chg (fun j => some j = row) W W' ∧ (∀ j, some j = row → B ≤ j) ∧ ∀ j o, W.heap[j]? = some o → o.isCells = true → ¬ some j = row :=
  ⟨Chg.of_grown hg fun k e => e.symm, fun j e => (hr j e.symm).1, fun j o h1 h2 e => by
    obtain ⟨_, o', h3, h4⟩ := hr j e.symm
    rw [h1] at h3; cases h3
    rw [h2] at h4; cases h4⟩
theorem made_out {B : Nat} {W2 W W' : World} {row : Option Nat} {rb qb : Nat} {rows : List (List Int)} {d : Array (Int × Int)} {f : List Nat} (hB : W2.heap.size ≤ B) (hm : MadeM W rb qb rows d f) (hs : Step [rb, qb] f W2 W) (hg : W.grownBy W' row)
    (hr : ∀ r, row = some r → B ≤ r ∧ ∃ o : Obj, W.heap[r]? = some o ∧ o.isCells = false) : MadeM W' rb qb rows d f ∧ Step [rb, qb] f W2 W' := by
  obtain ⟨hc, h1, h2⟩ := own_out hg hr
  exact ⟨hm.kept hc fun j hj => by obtain ⟨o, e1, e2⟩ := hm.cellsAt j hj; exact h2 j o e1 e2, hs.side hc fun j e => Nat.le_trans hB (h1 j e)⟩
abbrev MSt := List Hd × Array (Int × Int)
/-- When Drain is about to pop; when it has popped; when it ends. -/
def MJ (room : Nat) (l : List Int) (W2 : World) (rb qb : Nat) (s : MSt) (W : World) : Prop := ∃ f, MadeM W rb qb (rowsR s.1) s.2 f ∧ Step [rb, qb] f W2 W ∧ MdP room l l [] s.1 s.2
def MJ2 (room : Nat) (l : List Int) (W2 : World) (rb qb : Nat) (s : MSt) (W : World) : Prop := 0 < s.2.size ∧ MdP room l l [] s.1 s.2 ∧ ∃ f, MadeM W rb qb (rowsR s.1) (hpop s.2) f ∧ Step [rb, qb] f W2 W
def MJE (room : Nat) (l : List Int) (W2 : World) (rb qb : Nat) (s : MSt) (W : World) : Prop := s.2.size = 0 ∧ MdP room l l [] s.1 s.2 ∧ ∃ f, MadeM W rb qb (rowsR s.1) s.2 f ∧ Step [rb, qb] f W2 W
theorem made_drain {room : Nat} (hr8 : room ≤ 8) {l : List Int} {W2 : World} {rb qb : Nat} (l' : Nat) (Bk : World → Prop) (hBk : ∀ W W', Bk W → KeepsOthers W W' → Bk W') (W : World) (s : MSt) (hJ : MJ room l W2 rb qb s W) (hB : Bk W)
    (hY : ∀ s W1, MJ2 room l W2 rb qb s W1 → Bk W1 → YieldAt Fence.wide 0 Tryd.prog l' #[vW s.2[0]!] W1 fun e W' => e = .returned (.bool true) ∧ ∃ s' : MSt, s'.2.size < s.2.size ∧ MJ room l W2 rb qb s' W' ∧ Bk W') :
    CallsIn Fence.wide 1 Tryd.prog 56 #[.pointer (some ⟨qb, 0, none⟩), .func (.yield l') #[] #[]] W fun e W' => (∃ v, e = .returned v) ∧ ∃ s, MJE room l W2 rb qb s W' ∧ Bk W' := by
  refine drainW l' Bk hBk qb (MJ room l W2 rb qb) (MJ2 room l W2 rb qb) (MJE room l W2 rb qb) (fun s => s.2) (fun s => s.2.size) ?_ ?_ hY s W hJ hB
  · rintro s W ⟨f, m, st, mp⟩
    obtain ⟨v, ss, fq, fr, h1, h2, h3, rfl, hn⟩ := m
    refine ⟨fq, (List.nodup_append.1 (List.nodup_cons.1 hn).2).1, h2, by have := mp.size; show s.2.size ≤ 500; omega, fun h0 => ⟨fun w2 g _ _ => ⟨KW, goodK mp.good, cmpW_any w2 g⟩, fun f' W' q s' => ?_⟩⟩
    obtain ⟨m', t⟩ := MadeM.queue h1 h2 h3 hn q s'
    exact ⟨h0, mp, _, m', st.trans t⟩
  · rintro s W W' ⟨f, m, st, mp⟩ hz hb
    exact ⟨hz, mp, f, m.below hb, st.trans (Step.below m.nodup hb)⟩
set_option maxHeartbeats 16000000 in
set_option maxRecDepth 100000 in
theorem made_any {w : World} {p : Option Addr} {n cap : Nat} {l : List Int} {room : Nat} (h : SlE EZ w (.slice p n cap) l) (hl60 : n ≤ 60) (hrng : ∀ c ∈ l, -1000000 ≤ c ∧ c ≤ 1000000) (hr : 1 ≤ room) (hr8 : room ≤ 8) :
    Calls Tryd.prog 31 #[.slice p n cap, .int .i64 room] w fun e w' => ∃ v' ss f, e = .returned v' ∧ RowsS w' v' ss (rowsR (outs room l)) f ∧ f.Nodup ∧ (∀ j ∈ f, w.heap.size ≤ j) ∧ Below w.heap.size w w' := by
  have HX := hidp h
  have HN : Hid (n = l.length) := h.len.1
  have HRNG := hidp hrng
  clear h hrng
  refine (callsIn_wide (n := 2)).1 ?_
  refine callsIn_of_wp_marks Tryd.func31 rfl trivial ?_ rfl
  refine wpIn_wide.2 ?_
  simp only [Tryd.ntmps31, List.size_toArray, List.length_cons, List.length_nil, Nat.reduceAdd, Nat.reduceSub, Array.replicate_succ, Array.replicate_zero, List.push_toArray, List.append_toArray, List.nil_append, List.cons_append]
  go_wp2_with (go_at_call 50; refine (newQW _).mono ?_; rintro e w' ⟨rfl, rfl⟩)
  have q0 := newQW_at (w.alloc (.cells #[.slice none 0 0] 37))
  rw [World.size_alloc] at q0
  have hrb : (w.alloc (.cells #[.slice none 0 0] 37)).heap[w.heap.size]? = some (.cells #[.slice none 0 0] 37 (0, 0)) := World.alloc_heap_new w _
  have M0 : MadeM ((w.alloc (.cells #[.slice none 0 0] 37)).alloc (.cells #[.func (.func 51) #[] #[], .slice none 0 0] 122)) w.heap.size (w.heap.size + 1) (rowsR []) #[] [w.heap.size, w.heap.size + 1] :=
    MadeM.begin ((Below.heap_alloc _ _ _ (by simp)).trans hrb) q0 (by omega)
  have B0 : Below w.heap.size w ((w.alloc (.cells #[.slice none 0 0] 37)).alloc (.cells #[.func (.func 51) #[] #[], .slice none 0 0] 122)) := ((Below.refl _ w).alloc (Nat.le_refl _) _).alloc (by simp) _
  have HM0 := hidp M0
  have HB0 := hidp B0
  clear q0 hrb M0 B0
  generalize hrb : w.heap.size = rb at HM0 ⊢
  generalize hqb : rb + 1 = qb at HM0 ⊢
  have HRB : Hid (w.heap.size = rb ∧ rb + 1 = qb) := ⟨hrb, hqb⟩
  clear hrb hqb
  generalize (w.alloc (.cells #[.slice none 0 0] 37)).alloc (.cells #[.func (.func 51) #[] #[], .slice none 0 0] 122) = W2 at HM0 HB0 ⊢
  have HBS : Hid (∀ f wr, Step [rb, qb] f W2 wr → Below w.heap.size w wr) := fun f wr s => HB0.out.trans (s.chg.below (B := w.heap.size) (fun j hj => by
    obtain ⟨e1, e2⟩ := HRB.out
    simp only [List.mem_cons, List.not_mem_nil, or_false] at hj
    omega) HB0.out.size)
  go_loopg [16] n (fun g vi wr => ∃ i : Nat, vi = .int .i64 i ∧ i + g = n ∧ ∃ pre d f, Hid (MadeM wr rb qb (rowsR pre) d f) ∧ Hid (Step [rb, qb] f W2 wr) ∧ Hid (MdP room l (l.take i) (l.drop i) pre d) ∧ Hid (pre = [] ∨ d.size = room))
  case atStart => exact ⟨0, rfl, by omega, [], #[], _, HM0, Step.refl W2 HM0.out.nodup, (show Hid _ from MdP.begin room l HRNG.out), (show Hid _ from Or.inl rfl)⟩
  case round =>
    obtain ⟨i, rfl, hg, pre, d, f, HM, HS, HP, HE⟩ := hrel
    have HB : Hid (Below w.heap.size w wr) := HBS.out _ _ HS.out
    by_cases hlt : i < n
    · have hlz : (i : Int) < (n : Int) := by omega
      obtain ⟨c, hc⟩ : ∃ c, l[i]? = some c := ⟨_, List.getElem?_eq_getElem (by have := HN.out; omega)⟩
      obtain ⟨blk, off, rfl, _, _, hrd⟩ := (HX.out.below HB.out).some (by omega)
      have c0 := hrd.int hc
      have hdrop : l.drop i = c :: l.drop (i + 1) := by
        obtain ⟨hi, e⟩ := List.getElem?_eq_some_iff.1 hc
        rw [← e, List.getElem_cons_drop]
      have htake : l.take (i + 1) = l.take i ++ [c] := by
        obtain ⟨hi, e⟩ := List.getElem?_eq_some_iff.1 hc
        rw [List.take_succ_eq_append_getElem hi, e]
      have hp := HP.out
      rw [hdrop] at hp
      have HPC := hidp hp
      have HT := hidp htake
      have hcr := HRNG.out c (List.mem_of_getElem? hc)
      have HCR := hidp hcr
      have hsz := hp.size
      have M1 : MadeM (wr.alloc (.cells #[.int .i64 0, .int .i64 c] 88)) rb qb (rowsR pre) d f := HM.out.below ((Below.refl _ wr).alloc (Nat.le_refl _) _)
      have S1 : Step f f wr (wr.alloc (.cells #[.int .i64 0, .int .i64 c] 88)) := Step.below HM.out.nodup ((Below.refl _ wr).alloc (Nat.le_refl _) _)
      have HS1 := hidp (HS.out.trans S1)
      have HNB : Hid (wr.heap.size ∉ f) := notin_lt HM.out.lt (Nat.le_refl _)
      have HCM := hidp (made_many M1)
      have HM1 := hidp M1
      clear hc hrd hdrop htake hp hcr M1 S1
      by_cases hfull : d.size = room
      · have h0 : 0 < d.size := by omega
        obtain ⟨r, hrr⟩ : ∃ r, (hdOf d[0]!).1 = r := ⟨_, rfl⟩
        obtain ⟨x1, hx1⟩ : ∃ x, (hdOf d[0]!).2 = x := ⟨_, rfl⟩
        have hv : vW d[0]! = .agg #[.int .i64 (r : Nat), .int .i64 x1] := by
          have h1 := (HPC.out.good.at h0).1
          unfold vW
          rw [← hx1, ← hrr]
          unfold hdOf
          simp only
          rw [show (((valW d[0]!).1.toNat : Nat) : Int) = (valW d[0]!).1 by omega]
        obtain ⟨hle, hput⟩ := HPC.out.put hr h0
        obtain ⟨hl1, hl2⟩ := HPC.out.lens hr (by have := HN.out; omega)
        rw [hrr] at hle
        rw [hrr, hx1] at hput
        have CPop := made_pop HM1.out h0 (by omega) HPC.out.good
        rw [hv] at CPop
        have HCPop := hidp CPop
        have HPUT := hidp hput
        have HLE := hidp hle
        have HL1 := hidp hl1
        have HL2 := hidp hl2
        have hrz : IntKind.i64.wrap ((r : Int) + 1) = (r : Int) + 1 := by rw [IntKind.wrap_i64]; omega
        have hnw : newH (hdOf d[0]!) c = if c < x1 then (r + 1, c) else (r, c) := by unfold newH; rw [hrr, hx1]
        have HSW := HPC.out.swap hr hfull
        have hfz : ((d.size : Int) == (room : Int)) = true := by rw [hfull]; simp
        have HPS : Hid (((hpop d).size) ≤ 500) := by show _ ≤ _; rw [hpop_size]; omega
        have HGP : Hid (AllP GW (hpop d)) := HPC.out.good.hpop h0
        have hnbc0 : (wr.alloc (.cells #[.int .i64 0, .int .i64 c] 88)).cell? ⟨wr.heap.size, 0, none⟩ = some (.int .i64 0) := by simp
        have hnbc1 : (wr.alloc (.cells #[.int .i64 0, .int .i64 c] 88)).cell? ⟨wr.heap.size, 1, none⟩ = some (.int .i64 c) := by simp
        have hnbf : (wr.alloc (.cells #[.int .i64 0, .int .i64 c] 88)).frozen? ⟨wr.heap.size, 0, none⟩ = false := by simp
        have HW2 : Hid (W2.heap.size ≤ wr.heap.size) := HS.out.chg.size
        have HRBN : Hid (rb ∈ f) := by obtain ⟨v, ss, fq, fr, _, _, _, e, _⟩ := HM.out; show rb ∈ f; rw [e]; exact List.mem_cons_self
        have HRBL : Hid (∀ f2 w2, Step f f2 (wr.alloc (.cells #[.int .i64 0, .int .i64 c] 88)) w2 → rb < w2.heap.size) := fun f2 w2 s2 => Nat.lt_of_lt_of_le (HM1.out.lt rb HRBN.out) s2.chg.size
        have HD1 : Hid (rb ≠ wr.heap.size) := fun e => HNB.out (by rw [← e]; exact HRBN.out)
        by_cases hcx : c < x1
        · have hnew : newH (hdOf d[0]!) c = ((r + 1), c) := by rw [hnw, if_pos hcx]
          have hx : vW (itmW (((r + 1) : Nat) : Int) c) = .agg #[.int .i64 ((r : Int) + 1), .int .i64 c] := by unfold vW; rw [val_itmW]; rfl
          rw [hnew] at HSW
          have HPU : Hid (∀ W f6, MadeM W rb qb (putR (rowsR pre) r x1) (hpop d) f6 → Calls Tryd.prog 55 #[.pointer (some ⟨qb, 0, none⟩), .agg #[.int .i64 ((r : Int) + 1), .int .i64 c]] W fun e w' => e = .returned (.tuple #[]) ∧ ∃ f', MadeM w' rb qb (putR (rowsR pre) r x1) (hpush (hpop d) (itmW (((r + 1) : Nat) : Int) c)) f' ∧ Step f6 f' W w') := fun W f6 m => by
            have := made_push (x := itmW (((r + 1) : Nat) : Int) c) m HPS.out HGP.out (gw_itm (by omega) HCR.out.1 HCR.out.2)
            rw [hx] at this
            exact this
          have HSWP := hidp HSW
          clear HSW hnew hx hnw hput hle hl1 hl2 CPop hv hrr hx1
          go_wp2_with (first | (go_at_call 52; refine HCM.out.mono ?_; rintro e w' ⟨rfl, rfl⟩) | (go_at_call 53; refine HCPop.out.mono ?_; rintro e w2 ⟨rfl, f2, m2, s2⟩; have m3 := m2.below ((Below.refl _ w2).alloc (Nat.le_refl _) (.cells #[.int .i64 r, .int .i64 x1] 88)); obtain ⟨vv, cv, CW⟩ := made_written (r := r) (c := x1) m3 HLE.out HL1.out HL2.out; have hrbl : rb < w2.heap.size := HRBL.out f2 w2 s2; have cv2 : w2.cell? ⟨rb, 0, none⟩ = some vv := (World.cell?_of_block (a := ⟨rb, 0, none⟩) (Below.heap_alloc w2 _ _ hrbl)).symm.trans cv; have hn2 := notin_step s2 HNB.out (by simp); have hnl2 : wr.heap.size < w2.heap.size := Nat.lt_of_lt_of_le (by simp) s2.chg.size; have nb0 : w2.cell? ⟨wr.heap.size, 0, none⟩ = some (.int .i64 0) := cell_step s2 HNB.out hnbc0; have nb1 : w2.cell? ⟨wr.heap.size, 1, none⟩ = some (.int .i64 c) := cell_step s2 HNB.out hnbc1; have nbf : w2.frozen? ⟨wr.heap.size, 0, none⟩ = false := frozen_step s2 HNB.out (by simp) hnbf; have hg2 : w2.heap.size ∉ f2 := notin_lt m2.lt (Nat.le_refl _); have HCW := hidp CW; have HS2 := hidp s2; have HN2 := hidp hn2; have HG2 := hidp hg2; clear m2 s2 m3 CW hn2 hg2) | (go_at_call 54; refine HCW.out.mono ?_; rintro e w4 ⟨v', f4, rfl, x0, fz, m5, s5, ch4, pv, nv, kv, rfl⟩; have n40 : w4.cell? ⟨wr.heap.size, 0, none⟩ = some (.int .i64 0) := cell_chg ch4 HN2.out ((World.cell?_of_block (a := ⟨wr.heap.size, 0, none⟩) (Below.heap_alloc w2 _ _ hnl2)).trans nb0); have n41 : w4.cell? ⟨wr.heap.size, 1, none⟩ = some (.int .i64 c) := cell_chg ch4 HN2.out ((World.cell?_of_block (a := ⟨wr.heap.size, 1, none⟩) (Below.heap_alloc w2 _ _ hnl2)).trans nb1); have n4f : w4.frozen? ⟨wr.heap.size, 0, none⟩ = false := frozen_chg ch4 HN2.out (by simp; omega) ((World.frozen?_of_block (a := ⟨wr.heap.size, 0, none⟩) (Below.heap_alloc w2 _ _ hnl2)).trans nbf); have g40 : w4.cell? ⟨w2.heap.size, 0, none⟩ = some (.int .i64 r) := cell_chg ch4 HG2.out (by simp); have g41 : w4.cell? ⟨w2.heap.size, 1, none⟩ = some (.int .i64 x1) := cell_chg ch4 HG2.out (by simp); have hn4 : wr.heap.size ∉ f4 := notin_step s5 HN2.out (by simp; omega); have HM5 := hidp m5; have HS5 := hidp s5; have HN4 := hidp hn4; have d1 : rb ≠ wr.heap.size := HD1.out; have d2 : rb ≠ w2.heap.size := (by omega); have d3 : wr.heap.size ≠ w2.heap.size := (by omega); have z0 : (w4.setCell ⟨rb, 0, none⟩ (.slice pv nv kv)).cell? ⟨wr.heap.size, 0, none⟩ = some (.int .i64 0) := (World.cell?_setCell_other _ _ _ _ (addr_ne (Or.inl (by omega)))).trans n40; have z1 : ((w4.setCell ⟨rb, 0, none⟩ (.slice pv nv kv)).setCell ⟨wr.heap.size, 0, none⟩ (.int .i64 r)).cell? ⟨wr.heap.size, 0, none⟩ = some (.int .i64 r) := World.cell?_setCell_same _ _ _ z0; have z2 : (((w4.setCell ⟨rb, 0, none⟩ (.slice pv nv kv)).setCell ⟨wr.heap.size, 0, none⟩ (.int .i64 r)).setCell ⟨wr.heap.size, 0, none⟩ (.int .i64 ((r : Int) + 1))).cell? ⟨wr.heap.size, 0, none⟩ = some (.int .i64 ((r : Int) + 1)) := World.cell?_setCell_same _ _ _ z1; have y0 : (w4.setCell ⟨rb, 0, none⟩ (.slice pv nv kv)).cell? ⟨wr.heap.size, 1, none⟩ = some (.int .i64 c) := (World.cell?_setCell_other _ _ _ _ (addr_ne (Or.inl (by omega)))).trans n41; have y1 : ((w4.setCell ⟨rb, 0, none⟩ (.slice pv nv kv)).setCell ⟨wr.heap.size, 0, none⟩ (.int .i64 r)).cell? ⟨wr.heap.size, 1, none⟩ = some (.int .i64 c) := (World.cell?_setCell_other _ _ _ _ (by simp)).trans y0; have y2 : (((w4.setCell ⟨rb, 0, none⟩ (.slice pv nv kv)).setCell ⟨wr.heap.size, 0, none⟩ (.int .i64 r)).setCell ⟨wr.heap.size, 0, none⟩ (.int .i64 ((r : Int) + 1))).cell? ⟨wr.heap.size, 1, none⟩ = some (.int .i64 c) := (World.cell?_setCell_other _ _ _ _ (by simp)).trans y1; clear m5 s5 ch4 hn4) | (go_at_call 55; refine (HPU.out _ f4 (HM5.out.kept (F := fun x => x = wr.heap.size) (by first | exact chg_two _ _ _ _ _ _ | exact chg_one _ _ _ _) (fun j hj e => HN4.out (by rw [← e]; exact hj)))).mono ?_; rintro e w7 ⟨rfl, f7, m7, s7⟩; have HM7 := hidp m7; have HS7 := hidp s7; clear m7 s7))
          go_roundg (n - (i + 1))
          case measure => omega
          case rel =>
            have s8 : Step [rb, qb] f4 W2 _ := ((HS1.out.trans HS2.out).side (chg_new (.cells #[.int .i64 r, .int .i64 x1] 88)) (F := fun _ => False) (fun j q => q.elim)).trans HS5.out
            refine ⟨i + 1, by go_num, by omega, pre ++ [hdOf d[0]!], hpush (hpop d) (itmW (((r + 1) : Nat) : Int) c), f7, ?_, (s8.side (F := fun x => x = wr.heap.size) (by first | exact chg_two _ _ _ _ _ _ | exact chg_one _ _ _ _) (fun j e => by rw [e]; exact HW2.out)).trans HS7.out, ?_, (show Hid _ from Or.inr ?_)⟩
            · show MadeM _ _ _ _ _ _
              rw [← HPUT.out]; exact HM7.out
            · show MdP _ _ _ _ _ _
              rw [HT.out]; exact HSWP.out
            · rw [hpush_size, hpop_size]; omega
        · have hnew : newH (hdOf d[0]!) c = (r, c) := by rw [hnw, if_neg hcx]
          have hx : vW (itmW ((r : Nat) : Int) c) = .agg #[.int .i64 (r : Int), .int .i64 c] := by unfold vW; rw [val_itmW]
          rw [hnew] at HSW
          have HPU : Hid (∀ W f6, MadeM W rb qb (putR (rowsR pre) r x1) (hpop d) f6 → Calls Tryd.prog 55 #[.pointer (some ⟨qb, 0, none⟩), .agg #[.int .i64 (r : Int), .int .i64 c]] W fun e w' => e = .returned (.tuple #[]) ∧ ∃ f', MadeM w' rb qb (putR (rowsR pre) r x1) (hpush (hpop d) (itmW ((r : Nat) : Int) c)) f' ∧ Step f6 f' W w') := fun W f6 m => by
            have := made_push (x := itmW ((r : Nat) : Int) c) m HPS.out HGP.out (gw_itm (by omega) HCR.out.1 HCR.out.2)
            rw [hx] at this
            exact this
          have HSWP := hidp HSW
          clear HSW hnew hx hnw hput hle hl1 hl2 CPop hv hrr hx1
          go_wp2_with (first | (go_at_call 52; refine HCM.out.mono ?_; rintro e w' ⟨rfl, rfl⟩) | (go_at_call 53; refine HCPop.out.mono ?_; rintro e w2 ⟨rfl, f2, m2, s2⟩; have m3 := m2.below ((Below.refl _ w2).alloc (Nat.le_refl _) (.cells #[.int .i64 r, .int .i64 x1] 88)); obtain ⟨vv, cv, CW⟩ := made_written (r := r) (c := x1) m3 HLE.out HL1.out HL2.out; have hrbl : rb < w2.heap.size := HRBL.out f2 w2 s2; have cv2 : w2.cell? ⟨rb, 0, none⟩ = some vv := (World.cell?_of_block (a := ⟨rb, 0, none⟩) (Below.heap_alloc w2 _ _ hrbl)).symm.trans cv; have hn2 := notin_step s2 HNB.out (by simp); have hnl2 : wr.heap.size < w2.heap.size := Nat.lt_of_lt_of_le (by simp) s2.chg.size; have nb0 : w2.cell? ⟨wr.heap.size, 0, none⟩ = some (.int .i64 0) := cell_step s2 HNB.out hnbc0; have nb1 : w2.cell? ⟨wr.heap.size, 1, none⟩ = some (.int .i64 c) := cell_step s2 HNB.out hnbc1; have nbf : w2.frozen? ⟨wr.heap.size, 0, none⟩ = false := frozen_step s2 HNB.out (by simp) hnbf; have hg2 : w2.heap.size ∉ f2 := notin_lt m2.lt (Nat.le_refl _); have HCW := hidp CW; have HS2 := hidp s2; have HN2 := hidp hn2; have HG2 := hidp hg2; clear m2 s2 m3 CW hn2 hg2) | (go_at_call 54; refine HCW.out.mono ?_; rintro e w4 ⟨v', f4, rfl, x0, fz, m5, s5, ch4, pv, nv, kv, rfl⟩; have n40 : w4.cell? ⟨wr.heap.size, 0, none⟩ = some (.int .i64 0) := cell_chg ch4 HN2.out ((World.cell?_of_block (a := ⟨wr.heap.size, 0, none⟩) (Below.heap_alloc w2 _ _ hnl2)).trans nb0); have n41 : w4.cell? ⟨wr.heap.size, 1, none⟩ = some (.int .i64 c) := cell_chg ch4 HN2.out ((World.cell?_of_block (a := ⟨wr.heap.size, 1, none⟩) (Below.heap_alloc w2 _ _ hnl2)).trans nb1); have n4f : w4.frozen? ⟨wr.heap.size, 0, none⟩ = false := frozen_chg ch4 HN2.out (by simp; omega) ((World.frozen?_of_block (a := ⟨wr.heap.size, 0, none⟩) (Below.heap_alloc w2 _ _ hnl2)).trans nbf); have g40 : w4.cell? ⟨w2.heap.size, 0, none⟩ = some (.int .i64 r) := cell_chg ch4 HG2.out (by simp); have g41 : w4.cell? ⟨w2.heap.size, 1, none⟩ = some (.int .i64 x1) := cell_chg ch4 HG2.out (by simp); have hn4 : wr.heap.size ∉ f4 := notin_step s5 HN2.out (by simp; omega); have HM5 := hidp m5; have HS5 := hidp s5; have HN4 := hidp hn4; have d1 : rb ≠ wr.heap.size := HD1.out; have d2 : rb ≠ w2.heap.size := (by omega); have d3 : wr.heap.size ≠ w2.heap.size := (by omega); clear m5 s5 ch4 hn4) | (go_at_call 55; refine (HPU.out _ f4 (HM5.out.kept (F := fun x => x = wr.heap.size) (by first | exact chg_two _ _ _ _ _ _ | exact chg_one _ _ _ _) (fun j hj e => HN4.out (by rw [← e]; exact hj)))).mono ?_; rintro e w7 ⟨rfl, f7, m7, s7⟩; have HM7 := hidp m7; have HS7 := hidp s7; clear m7 s7))
          go_roundg (n - (i + 1))
          case measure => omega
          case rel =>
            have s8 : Step [rb, qb] f4 W2 _ := ((HS1.out.trans HS2.out).side (chg_new (.cells #[.int .i64 r, .int .i64 x1] 88)) (F := fun _ => False) (fun j q => q.elim)).trans HS5.out
            refine ⟨i + 1, by go_num, by omega, pre ++ [hdOf d[0]!], hpush (hpop d) (itmW ((r : Nat) : Int) c), f7, ?_, (s8.side (F := fun x => x = wr.heap.size) (by first | exact chg_two _ _ _ _ _ _ | exact chg_one _ _ _ _) (fun j e => by rw [e]; exact HW2.out)).trans HS7.out, ?_, (show Hid _ from Or.inr ?_)⟩
            · show MadeM _ _ _ _ _ _
              rw [← HPUT.out]; exact HM7.out
            · show MdP _ _ _ _ _ _
              rw [HT.out]; exact HSWP.out
            · rw [hpush_size, hpop_size]; omega
      · have hne : ((d.size : Int) == (room : Int)) = false := beq_eq_false_iff_ne.2 (by omega)
        have hpre : pre = [] := by rcases HE.out with z | z; exact z; exact absurd z hfull
        subst hpre
        have hx : vW (itmW 0 c) = .agg #[.int .i64 0, .int .i64 c] := by unfold vW; rw [val_itmW]
        have CP := made_push HM1.out (by omega) HPC.out.good (gw_itm (Int.le_refl 0) HCR.out.1 HCR.out.2)
        rw [hx] at CP
        have HCP := hidp CP
        clear CP hx
        go_wp2_with (first | (go_at_call 52; refine HCM.out.mono ?_; rintro e w' ⟨rfl, rfl⟩) | (go_at_call 55; refine HCP.out.mono ?_; rintro e w' ⟨rfl, f', m2, s2⟩; have HM2 := hidp m2; have HS2 := hidp s2; clear m2 s2))
        go_roundg (n - (i + 1))
        case measure => omega
        case rel =>
          refine ⟨i + 1, by go_num, by omega, [], _, f', HM2, HS1.out.trans HS2.out, ?_, (show Hid _ from Or.inl rfl)⟩
          show MdP _ _ _ _ _ _
          rw [HT.out]
          exact HPC.out.hold hr (by omega)
    · have hlz : ¬ (i : Int) < (n : Int) := by omega
      have hp := HP.out
      rw [List.drop_eq_nil_of_le (by have := HN.out; omega), List.take_of_length_le (by have := HN.out; omega)] at hp
      have HPE := hidp hp
      clear hp
      go_wp2
      have hWB : W2.heap.size ≤ wr.heap.size := HS.out.chg.size
      have HWB := hidp hWB
      refine wp_range_state (σ := MSt) (gf := 56) (bd := #[.pointer (some ⟨qb, 0, none⟩)]) rfl (enters_of Tryd.func56 (by kernel_rfl) rfl) (fun s : MSt => #[vW s.2[0]!]) (fun _ => rfl)
        (MJ room l W2 rb qb) (MJ2 room l W2 rb qb) (MJE room l W2 rb qb)
        (fun s a' W => ∃ (gb r : Nat) (x1 : Int), a' = { tmps := #[.slice p n cap, .int .i64 room, undef, undef, .slice none 0 0, .pointer (some ⟨rb, 0, none⟩), .pointer (some ⟨qb, 0, none⟩), undef, u8, u9, u10, u11, .pointer (some ⟨gb, 0, none⟩), .pointer (some ⟨qb, 0, none⟩), .slice p n cap, .int .i64 n, .int .i64 i, .bool false, u18, u19, u20, u21, u22, u23, u24, u25, u26, u27, u28, u29, u30, u31, u32, u33, u34, u35, u36, u37, u38, u39, u40, u41, u42, u43, u44, u45, u46, u47, u48, .pointer (some ⟨qb, 0, none⟩), .func (.func 56) #[.pointer (some ⟨qb, 0, none⟩)] #[], .agg #[.int .i64 r, .int .i64 x1], undef, undef, undef, undef], defers := [] } ∧ hdOf s.2[0]! = (r, x1) ∧ W.heap[gb]? = some (.cells #[.int .i64 r, .int .i64 x1] 88 (0, 0)) ∧ 0 < s.2.size ∧ MdP room l l [] s.1 s.2 ∧ ∃ f, gb ∉ f ∧ MadeM W rb qb (rowsR s.1) (hpop s.2) f ∧ Step [rb, qb] f W2 W)
        (fun s' s => s'.2.size < s.2.size) ?hJ ?hJE ?hJ3 ?seq (pre, d) ⟨f, HM.out, HS.out, HPE.out⟩ ?assign ?body ?done
      case hJ =>
        rintro s W W' row ⟨f, m, st, mp⟩ hg hr
        obtain ⟨m', st'⟩ := made_out HWB.out m st hg hr
        exact ⟨f, m', st', mp⟩
      case hJE =>
        rintro s W W' row ⟨hz, mp, f, m, st⟩ hg hr
        obtain ⟨m', st'⟩ := made_out HWB.out m st hg hr
        exact ⟨hz, mp, f, m', st'⟩
      case hJ3 =>
        rintro a' s W W' row ⟨gb, r, x1, e, hh, hb, h0, mp, f, hn, m, st⟩ hg hr
        obtain ⟨m', st'⟩ := made_out HWB.out m st hg hr
        obtain ⟨hc, _, h2⟩ := own_out hg hr
        exact ⟨gb, r, x1, e, hh, (hc.block gb (box_lt hb) (h2 gb _ hb rfl)).trans hb, h0, mp, f, hn, m', st'⟩
      case seq =>
        intro l' Bk hBk W s hJ hB hY
        exact made_drain hr8 l' Bk hBk W s hJ hB hY
      case assign =>
        rintro l' s W K ⟨h0, mp, f, m, st⟩ hK
        obtain ⟨r, x1, hh⟩ : ∃ r x, hdOf s.2[0]! = (r, x) := ⟨_, _, rfl⟩
        have hv : vW s.2[0]! = .agg #[.int .i64 (r : Nat), .int .i64 x1] := by
          have h1 := (mp.good.at h0).1
          have e1 : (hdOf s.2[0]!).1 = r := by rw [hh]
          have e2 : (hdOf s.2[0]!).2 = x1 := by rw [hh]
          unfold vW
          rw [← e1, ← e2]
          unfold hdOf
          simp only
          rw [show (((valW s.2[0]!).1.toNat : Nat) : Int) = (valW s.2[0]!).1 by omega]
        have HK : Hid _ := hK
        have HM' := hidp m
        have HST := hidp st
        have HMP := hidp mp
        have HH0 := hidp h0
        have HHH := hidp hh
        clear hK m st mp h0 hh
        simp only [hv]
        gi_wp2
        refine HK.out _ _ (others_belowW ((Below.refl _ W).alloc (Nat.le_refl _) (.cells #[.int .i64 r, .int .i64 x1] 88))) ⟨W.heap.size, r, x1, rfl, HHH.out, World.alloc_heap_new W _, HH0.out, HMP.out, f, notin_lt HM'.out.lt (Nat.le_refl _), HM'.out.below ((Below.refl _ W).alloc (Nat.le_refl _) _), HST.out.trans (Step.below HM'.out.nodup ((Below.refl _ W).alloc (Nat.le_refl _) _))⟩
      case body =>
        rintro l' s a' W ⟨gb, r, x1, rfl, hh, hb, h0, mp, f, hn, m, st⟩
        obtain ⟨hle, hput⟩ := mp.put hr h0
        obtain ⟨hl1, hl2⟩ := mp.lens hr (by have := HN.out; omega)
        rw [hh] at hle hput
        obtain ⟨vv, cv, CW⟩ := made_written (r := r) (c := x1) m hle hl1 hl2
        have b0 : W.cell? ⟨gb, 0, none⟩ = some (.int .i64 r) := by simp [World.cell?, hb]
        have b1 : W.cell? ⟨gb, 1, none⟩ = some (.int .i64 x1) := by simp [World.cell?, hb]
        have HM' := hidp m
        have HST := hidp st
        have hmp := mp.drain hr h0
        rw [hh] at hmp
        have HMP := hidp hmp
        have HPUT := hidp hput
        have HH0 := hidp h0
        have HCW := hidp CW
        clear hb m st mp hmp hput hle hl1 hl2 CW hh hn
        gi_wp2_with (refine ⟨trivial, rfl, ?_⟩; gi_at_call 54; refine (CallsIn.inRound l' (callsIn_wide.2 HCW.out)).mono ?_; rintro e w4 ⟨v', f4, rfl, x0, fz, m5, s5, ch4, pv, nv, kv, rfl⟩; have HM5 := hidp m5; have HS5 := hidp s5; clear m5 s5 ch4)
        refine ⟨others_chgW HS5.out.chg fun j hj => HM'.out.cellsAt j hj, (s.1 ++ [(r, x1)], hpop s.2), ?_, f4, ?_, HST.out.trans HS5.out, HMP.out⟩
        · show (hpop s.2).size < s.2.size
          rw [hpop_size]; have := HH0.out; omega
        · show MadeM _ _ _ (rowsR (s.1 ++ [(r, x1)])) _ _
          rw [← HPUT.out]; exact HM5.out
      case done =>
        rintro D s W hD ⟨hz, mp, f, m, st⟩ hK
        obtain ⟨v, ss, fq, fr, h1, h2, h3, rfl, hn⟩ := m
        have c1 : W.cell? ⟨rb, 0, none⟩ = some v := by simp [World.cell?, h1]
        have HR := hidp h3
        have hout : s.1 = outs room l := by
          have := mp.eq
          rw [show hdS s.2 = [] from List.eq_nil_of_length_eq_zero (by rw [hdS_len]; exact hz), outR_end, List.append_nil] at this
          exact this
        have HO := hidp hout
        have HST := hidp st
        have HK := hidp hK
        have HNR : Hid fr.Nodup := (List.nodup_append.1 (List.nodup_cons.1 hn).2).2.1
        clear h1 h2 h3 hn hz mp st hK hout
        go_wp2
        refine ⟨by simp, .inl ⟨_, _, rfl, run_takeDeferred HK.out, ?_⟩⟩
        refine ⟨_, results_tmp rfl _ _ _, ?_⟩
        have hc : Chg (fun j => some j = some D) W (W.putObj D (.deferred none)) := Chg.of_grown (grownBy_putObj' W D _) fun k e => e.symm
        have hd : ∀ j ∈ fr, ¬ some j = some D := fun j hj e => by
          obtain ⟨o, e1, e2⟩ := HR.out.cellsAt j hj
          obtain rfl : j = D := Option.some.inj e
          rw [HK.out] at e1; cases e1; cases e2
        have hs : Step [rb, qb] (rb :: (fq ++ fr)) W2 (W.putObj D (.deferred none)) := HST.out.side hc fun j e => by
          obtain rfl : j = D := Option.some.inj e
          exact Nat.le_trans HWB.out hD
        refine ⟨v, ss, fr, rfl, ?_, HNR.out, fun j hj => ?_, HBS.out _ _ hs⟩
        · rw [← HO.out]; exact HR.out.kept hc hd
        · obtain ⟨e1, e2⟩ := HRB.out
          have hb := HB0.out.size
          rcases HST.out.sub j (List.mem_cons_of_mem _ (List.mem_append_right _ hj)) with z | z
          · simp only [List.mem_cons, List.not_mem_nil, or_false] at z
            omega
          · omega
#print axioms made_any
end Go.Proofs.YtlaeaeciomkababDoor
