/-
  The law StreamLeast, walked: the least of the last.
-/
import Derived.Test.YtcjfbenbdjlodabLawStF
namespace Go.Proofs.Ytcjfbenbdjlodab
open Go.RowKit Go.Sort Go.Proofs

/-- Two streams, and a row of numbers of one's own beside them. -/
structure Two (w0 : World) (sb room : Nat) (zs : List Int) (f : List Nat) (tb : Nat) (zt : List Int) (g : List Nat) (v : Value) (ys : List Int) (w : World) : Prop where
  st : StS w sb room zs f
  tt : StS w tb 60 zt g
  own : OwnE EZ w 0 v ys
  nodup : (v.ownBlock.toList ++ (f ++ g)).Nodup
  base : ∀ j ∈ v.ownBlock.toList ++ (f ++ g), w0.heap.size ≤ j
  below : Below w0.heap.size w0 w
section
variable {w0 w w' : World} {sb room tb : Nat} {zs zt ys : List Int} {f g : List Nat} {v : Value}
theorem Two.step_base {o : List Nat} (h : Two w0 sb room zs f tb zt g v ys w) (s : Step (v.ownBlock.toList ++ (f ++ g)) o w w') : (∀ j ∈ o, w0.heap.size ≤ j) ∧ Below w0.heap.size w0 w' := by
  refine ⟨fun j hj => ?_, h.below.trans (s.chg.below h.base h.below.size)⟩
  rcases s.sub j hj with z | z
  · exact h.base j z
  · exact Nat.le_trans h.below.size z
theorem Two.lt (h : Two w0 sb room zs f tb zt g v ys w) : ∀ j ∈ f ++ g, j < w.heap.size := by
  intro j hj
  rcases List.mem_append.1 hj with z | z
  · exact h.st.lt j z
  · exact h.tt.lt j z
theorem Two.begin {w1 w2 w3 : World} (hb : Below w0.heap.size w0 w1) (h1 : StS w2 sb room [] f) (hf : ∀ j ∈ f, w1.heap.size ≤ j) (hb1 : Below w1.heap.size w1 w2) (h2 : StS w3 tb 60 [] g) (hg : ∀ j ∈ g, w2.heap.size ≤ j) (hb2 : Below w2.heap.size w2 w3) : Two w0 sb room [] f tb [] g (.slice none 0 0) [] w3 := by
  have s1 := hb.size
  have s2 := hb1.size
  refine ⟨h1.kept (F := fun _ => False) (Chg.of_below hb2) (fun _ _ q => q), h2, OwnE.nil EZ _ 0, ?_, ?_, (hb.trans (hb1.mono s1)).trans (hb2.mono (by omega))⟩
  · show (f ++ g).Nodup
    refine List.nodup_append.2 ⟨h1.nodup, h2.nodup, fun x hx y hy e => ?_⟩
    subst e
    have := h1.lt x hx
    have := hg x hy
    omega
  · intro j hj
    rcases List.mem_append.1 (show j ∈ f ++ g from hj) with z | z
    · have := hf j z; omega
    · have := hg j z; omega
theorem Two.put1 (h : Two w0 sb room zs f tb zt g v ys w) (hs : zs.length < 60) {c : Int} (hc : ¬ (c < -1000000 ∨ 1000000 < c)) :
    Calls Try.prog 7 #[.pointer (some ⟨sb, 0, none⟩), .int .i64 c] w fun e w' => e = .returned .nilIface ∧ ∃ f', Two w0 sb room (zs ++ [c]) f' tb zt g v ys w' := by
  refine (ss_put h.st hs hc).mono ?_
  rintro e w' ⟨rfl, f', k, s⟩
  have nf := (List.nodup_append.1 h.nodup).2.1
  have s2 := s.left nf h.tt.lt
  have s3 := s2.right h.nodup (num_lt h.own)
  obtain ⟨b1, b2⟩ := h.step_base s3
  exact ⟨rfl, f', k, h.tt.kept s.chg (apart_l nf), num_kept h.own s2.chg (apart_r h.nodup), s3.nodup, b1, b2⟩
theorem Two.put2 (h : Two w0 sb room zs f tb zt g v ys w) (hs : zt.length < 60) {c : Int} (hc : ¬ (c < -1000000 ∨ 1000000 < c)) :
    Calls Try.prog 7 #[.pointer (some ⟨tb, 0, none⟩), .int .i64 c] w fun e w' => e = .returned .nilIface ∧ ∃ g', Two w0 sb room zs f tb (zt ++ [c]) g' v ys w' := by
  refine (ss_put h.tt hs hc).mono ?_
  rintro e w' ⟨rfl, g', k, s⟩
  have nf := (List.nodup_append.1 h.nodup).2.1
  have s2 := s.right nf h.st.lt
  have s3 := s2.right h.nodup (num_lt h.own)
  obtain ⟨b1, b2⟩ := h.step_base s3
  exact ⟨rfl, g', h.st.kept s.chg (apart_r nf), k, num_kept h.own s2.chg (apart_r h.nodup), s3.nodup, b1, b2⟩
theorem Two.app {v' : Value} {c : Int} (h : Two w0 sb room zs f tb zt g v ys w) (a1 : OwnE EZ w' 0 v' (ys ++ [c])) (a2 : (w.alloc (.cells #[.int .i64 c] 3)).grownBy w' v.ownBlock) (a3 : v'.ownBlock = v.ownBlock ∨ v'.ownBlock = some (w.alloc (.cells #[.int .i64 c] 3)).heap.size) :
    Two w0 sb room zs f tb zt g v' (ys ++ [c]) w' := by
  have s := app_step a2 a3
  have s2 := s.left h.nodup h.lt
  obtain ⟨b1, b2⟩ := h.step_base s2
  have ha := apart_l h.nodup
  exact ⟨h.st.kept s.chg fun j z => ha j (List.mem_append_left _ z), h.tt.kept s.chg fun j z => ha j (List.mem_append_right _ z), a1, s2.nodup, b1, b2⟩
end
set_option maxHeartbeats 1000000 in
theorem lasts_any {w : World} {g n cap room : Nat} (h0 : 1 ≤ room) (hn : 0 < n) (hc : n ≤ cap) (hb : n ≤ 1000) (hr : room ≤ 60) :
    Calls Try.prog 9 #[.slice (some ⟨g, 0, none⟩) n cap, .int .i64 (room : Int)] w fun e w' => e = .returned (.slice (some ⟨g, n - room, none⟩) (n - (n - room)) (cap - (n - room))) ∧ w' = w := by
  by_cases hlt : room < n
  · obtain ⟨k, hk⟩ : ∃ k, n - room = k := ⟨_, rfl⟩
    obtain rfl : n = room + k := by omega
    have hz : (room : Int) < (room : Int) + (k : Int) := by omega
    have hw : IntKind.i64.wrap (k : Int) = (k : Int) := by rw [IntKind.wrap_i64]; omega
    have hw2 : IntKind.i64.wrap ((room : Int) + (k : Int) - (room : Int)) = (k : Int) := by rw [IntKind.wrap_i64]; omega
    have hs : (room : Int) + (k : Int) - (room : Int) = (k : Int) := by omega
    have h1 : (k : Int) ≤ (room : Int) + (k : Int) := by omega
    have h2 : k < cap := by omega
    have h3 : ¬ (cap = k) := by omega
    rw [hk, show room + k - k = room by omega]
    go_enter Try.func9, Try.ntmps9
    go_wp2
    go_ret
    exact ⟨rfl, rfl⟩
  · have e : n - room = 0 := by omega
    have hz : ¬ ((room : Int) < (n : Int)) := by omega
    rw [e]
    go_enter Try.func9, Try.ntmps9
    go_wp2
    go_ret
    exact ⟨rfl, rfl⟩

/-- Whether x is among the first k. -/
def HereIn (h : Bool) (L : List Int) (k : Nat) (x : Int) : Prop := h = true ↔ x ∈ L.take k
theorem here_zero (L : List Int) (x : Int) : HereIn false L 0 x := by unfold HereIn; simp
theorem here_succ {L : List Int} {k : Nat} {y x : Int} (hx : L[k]? = some y) : x ∈ L.take (k + 1) ↔ x ∈ L.take k ∨ x = y := by
  obtain ⟨hk, hv⟩ := List.getElem?_eq_some_iff.1 hx
  rw [List.take_succ_eq_append_getElem hk, hv]
  simp
theorem here_keep {L : List Int} {k : Nat} {y x : Int} (h : HereIn true L k x) (hx : L[k]? = some y) : HereIn true L (k + 1) x := ⟨fun _ => (here_succ hx).2 (Or.inl (h.1 rfl)), fun _ => rfl⟩
theorem here_new {L : List Int} {k : Nat} {x : Int} (hx : L[k]? = some x) : HereIn true L (k + 1) x := ⟨fun _ => (here_succ hx).2 (Or.inr rfl), fun _ => rfl⟩
theorem here_not {L : List Int} {k : Nat} {y x : Int} (h : HereIn false L k x) (hx : L[k]? = some y) (e : ¬ y = x) : HereIn false L (k + 1) x := by
  refine ⟨fun z => (by cases z), fun z => ?_⟩
  rcases (here_succ hx).1 z with z | z
  · exact h.2 z
  · exact absurd z.symm e
theorem here_end {h : Bool} {L : List Int} {k : Nat} {x : Int} (hh : HereIn h L k x) (hl : L.length ≤ k) (hm : x ∈ L) : h = true := hh.2 (by rw [List.take_of_length_le hl]; exact hm)
theorem least_drop {ys : List Int} {o : Nat} {m n : Int} (hm : LeastOf ys m) (hn : LeastOf (ys.drop o) n) : m ≤ n := hm.2 n (List.mem_of_mem_drop hn.1)
set_option maxHeartbeats 4000000 in
theorem least_lost {w : World} {room : Int} (h : room < 1 ∨ 60 < room) (p : Option Addr) (n cap : Nat) :
    Calls Try.prog 3 #[.int .i64 room, .slice p n cap] w fun e w' => e = .returned (.bool true) ∧ Below w.heap.size w w' := by
  have C0 := hidp (streamFact_any w)
  have C1 := hidp fun w1 : World => new_bad (w := w1) h
  have hq : decide (room < 1) = true ∨ (decide (room < 1) = false ∧ 60 < room ∧ ¬ room < 1) := by
    by_cases q : room < 1
    · exact Or.inl (decide_eq_true q)
    · exact Or.inr ⟨decide_eq_false q, by omega, q⟩
  go_enter Try.func3, Try.ntmps3
  go_wp2_with fail
  refine C0.out.mono ?_
  rintro e w1 ⟨rfl, hb1⟩
  have HB1 := hidp hb1
  clear hb1 C0
  go_wp2_with fail
  refine (C1.out w1).mono ?_
  rintro e w1' ⟨rfl, rfl⟩
  have C2 := hidp (ss_new (w := w1') (room := 60) (by omega) (by omega))
  clear C1
  go_wp2_with fail
  refine C2.out.mono ?_
  rintro e w3 ⟨tb, g, rfl, h1, h2, h3⟩
  have HB3 := hidp (HB1.out.trans (h3.mono HB1.out.size))
  clear h1 h2 h3 C2 HB1
  rcases hq with q | ⟨q, q2, q3⟩
  · have q' : room < 1 := of_decide_eq_true q
    go_wp2
    go_ret
    exact ⟨rfl, HB3.out⟩
  · go_wp2
    go_ret
    exact ⟨rfl, HB3.out⟩
set_option maxHeartbeats 4000000 in
theorem least_empty (room : Nat) (hr1 : 1 ≤ room) (hr2 : room ≤ 60) (p : Option Addr) (cap : Nat) (w : World) :
    Calls Try.prog 3 #[.int .i64 (room : Int), .slice p 0 cap] w fun e w' => e = .returned (.bool true) ∧ Below w.heap.size w w' := by
  have C0 := hidp (streamFact_any w)
  go_enter Try.func3, Try.ntmps3
  go_wp2_with fail
  refine C0.out.mono ?_
  rintro e w1 ⟨rfl, hb1⟩
  have C1 := hidp (ss_new (w := w1) (room := room) hr1 hr2)
  have HB1 := hidp hb1
  clear hb1 C0
  go_wp2_with fail
  refine C1.out.mono ?_
  rintro e w2 ⟨sb, f, rfl, h1, h2, h3⟩
  have HB2 := hidp (HB1.out.trans (h3.mono HB1.out.size))
  have C2 := hidp (ss_new (w := w2) (room := 60) (by omega) (by omega))
  clear h1 h2 h3 C1
  go_wp2_with fail
  refine C2.out.mono ?_
  rintro e w3 ⟨tb, g, rfl, h1, h2, h3⟩
  have HB3 := hidp (HB2.out.trans (h3.mono HB2.out.size))
  clear h1 h2 h3 C2
  go_wp2
  refine wp_loop_rounds 1 ?_
  rw [rounds_succ]
  go_wp2
  go_ret
  exact ⟨rfl, HB3.out⟩
set_option maxHeartbeats 16000000 in
set_option maxRecDepth 100000 in
theorem least_full (room : Nat) (hr1 : 1 ≤ room) (hr2 : room ≤ 60) (blk off n cap : Nat) (xs : List Int) (w : World) (hr : RdE EZ w blk off xs) (hn : xs.length = n) :
    Calls Try.prog 3 #[.int .i64 (room : Int), .slice (some ⟨blk, off, none⟩) n cap] w fun e w' => e = .returned (.bool true) ∧ Below w.heap.size w w' := by
  have C0 := hidp (streamFact_any w)
  have HR := hidp hr
  have HN := hidp hn
  clear hr hn
  go_enter Try.func3, Try.ntmps3
  go_wp2_with fail
  refine C0.out.mono ?_
  rintro e w1 ⟨rfl, hb1⟩
  have C1 := hidp (ss_new (w := w1) (room := room) hr1 hr2)
  have HB1 := hidp hb1
  clear hb1 C0
  go_wp2_with fail
  refine C1.out.mono ?_
  rintro e w2 ⟨sb, f, rfl, h1, h2, h3⟩
  have H1 := hidp h1
  have H2 := hidp h2
  have H3 := hidp h3
  have C2 := hidp (ss_new (w := w2) (room := 60) (by omega) (by omega))
  clear h1 h2 h3 C1
  go_wp2_with fail
  refine C2.out.mono ?_
  rintro e w3 ⟨tb, g, rfl, h1, h2, h3⟩
  have HI := hidp (Two.begin HB1.out H1.out H2.out H3.out h1 h2 h3)
  clear h1 h2 h3 C2 HB1 H1 H2 H3
  go_wp2
  go_loopg [10, 11, 12] 61 (fun gg va vl vi wr => ∃ (i : Nat) (last : Int) (zs : List Int) (f g : List Nat), vi = .int .i64 i ∧ vl = .int .i64 last ∧ i + gg = 61 ∧ zs.length ≤ i ∧ i ≤ 60 ∧ Hid (Two w sb room zs f tb zs g va zs wr) ∧ Hid (last ∈ zs ∨ zs = [] ∧ last = 1000000))
  case atStart => exact ⟨0, 1000000, [], f, g, rfl, rfl, rfl, Nat.zero_le _, by omega, HI, Or.inr ⟨rfl, rfl⟩⟩
  case round =>
    obtain ⟨i, last, zs, f, g, rfl, rfl, hg, hzi, hi60, HB, HL⟩ := hrel
    clear HI
    by_cases hlt : i < n ∧ i < 60
    · obtain ⟨hin, hi6⟩ := hlt
      have hiz : (i : Int) < (n : Int) := by omega
      have hiz2 : (i : Int) < 60 := by omega
      have hid0 : decide ((i : Int) < (n : Int)) = true := decide_eq_true hiz
      obtain ⟨c, hc⟩ : ∃ c, xs[i]? = some c := ⟨_, List.getElem?_eq_getElem (by rw [HN.out]; exact hin)⟩
      have HC := hidp hc
      have ca := HR.out.nums HB.out.below hc
      clear hc
      by_cases hbad : c < -1000000 ∨ 1000000 < c
      · have CP := hidp (put_bad (w := wr) (sb := sb) hbad)
        have CQ := hidp (put_bad (w := wr) (sb := tb) hbad)
        clear hbad
        go_wp2_with fail
        refine CP.out.mono ?_
        rintro e w' ⟨rfl, rfl⟩
        go_wp2_with fail
        refine CQ.out.mono ?_
        rintro e w' ⟨rfl, rfl⟩
        go_wp2
        go_roundg (61 - (i + 1))
        case measure => omega
        case rel => exact ⟨i + 1, last, zs, f, g, by go_num, rfl, by omega, by omega, by omega, HB, HL⟩
      · have CP := hidp (HB.out.put1 (by omega) hbad)
        obtain ⟨p6, c6, e6⟩ := HB.out.own.form
        subst e6
        have HBD := hidp hbad
        clear hbad
        go_wp2_with fail
        refine CP.out.mono ?_
        rintro e w4 ⟨rfl, f4, k4⟩
        have cb := HR.out.nums k4.below HC.out
        have CQ := hidp (k4.put2 (by omega) HBD.out)
        clear k4 CP ca HB
        go_wp2_with fail
        refine CQ.out.mono ?_
        rintro e w5 ⟨rfl, g5, k5⟩
        have cc := HR.out.nums k5.below HC.out
        have K5 := hidp k5
        have HOA := hidp (k5.own.alloc (.cells #[.int .i64 c] 3))
        have HNEW := hidp (new_num w5 c)
        have HLN : Hid (zs.length ≤ 100000) := by show _ ≤ _; omega
        clear k5 CQ cb
        obtain ⟨ys, hY⟩ : ∃ ys, zs ++ [c] = ys := ⟨_, rfl⟩
        have HYE := hidp hY
        rw [hY] at K5
        obtain ⟨N, hN⟩ : ∃ N, ys.length = N := ⟨_, rfl⟩
        have hyl : N = zs.length + 1 := by rw [← hN, ← hY]; simp
        have hN0 : 0 < N := by omega
        have hNi : N ≤ i + 1 := by omega
        have HNN := hidp hN
        clear hY hyl hN
        have CN := hidp (fun (v1 : Value) (w6 : World) (h : Two w sb room ys f4 tb ys g5 v1 ys w6) => ss_least h.st (by rw [HNN.out]; exact hN0))
        have CM := hidp (fun (v1 : Value) (w6 : World) (h : Two w sb room ys f4 tb ys g5 v1 ys w6) => ss_least h.tt (by rw [HNN.out]; exact hN0))
        go_wp2_with (at_builtin; refine wpList_appendE EZ rfl (.tmp 78) (.tmp 83) rfl 0 _ zs c ⟨w5.heap.size, 0, none⟩ 1 rfl HOA.out rfl HNEW.out HLN.out (Nat.zero_le _) ?_; intro v1 w6 a1 a2 a3; have hk6 := K5.out.app a1 a2 a3; rw [HYE.out] at hk6; obtain ⟨gb, cap1, rfl, hcap1⟩ := num_some hk6.own HNN.out hN0; have K6 := hidp hk6; clear a1 a2 a3 hk6)
        clear HOA HNEW HLN K5 cc
        refine (CN.out _ w6 K6.out).mono ?_
        rintro e w7 ⟨nS, rfl, hS, rfl⟩
        have HS := hidp hS
        clear hS CN
        go_wp2_with fail
        refine (CM.out _ w7 K6.out).mono ?_
        rintro e w8 ⟨mT, rfl, hT, rfl⟩
        rw [HNN.out] at hT
        have hT0 : ys.drop (N - 60) = ys := by rw [show N - 60 = 0 by omega]; rfl
        rw [hT0] at hT
        have hmn : ¬ nS < mT := by have := least_drop hT HS.out; omega
        have hml : ¬ last < mT := by
          rcases HL.out with q | ⟨q1, q2⟩
          · have := hT.2 last (by rw [← HYE.out]; exact List.mem_append_left _ q); omega
          · have := hT.2 c (by rw [← HYE.out]; simp)
            have := HBD.out
            omega
        have HT := hidp hT
        clear hT hT0 CM
        go_wp2_with fail
        refine (lasts_any (w := w8) (g := gb) hr1 hN0 hcap1 (by omega) hr2).mono ?_
        rintro e w9 ⟨rfl, rfl⟩
        obtain ⟨o, ho⟩ : ∃ o, N - room = o := ⟨_, rfl⟩
        obtain ⟨q, hq⟩ : ∃ q, N - o = q := ⟨_, rfl⟩
        obtain ⟨cq, hcq⟩ : ∃ cq, cap1 - o = cq := ⟨_, rfl⟩
        have HS2 : Hid (LeastOf (ys.drop o) nS) := by have := HS.out; rw [HNN.out, ho] at this; exact this
        have HQ : Hid ((ys.drop o).length = q) := by show _ = _; rw [List.length_drop, HNN.out, hq]
        rw [ho, hq, hcq]
        clear ho hcq HS
        have hqN : q ≤ N := by omega
        clear hq
        go_wp2
        go_loopg [20, 21] q (fun g2 vh vk wr2 => ∃ (k : Nat) (h : Bool), vk = .int .i64 k ∧ vh = .bool h ∧ k + g2 = q ∧ Hid (HereIn h (ys.drop o) k nS) ∧ wr2 = w9)
        case atStart => exact ⟨0, false, rfl, rfl, by omega, here_zero _ _, rfl⟩
        case round =>
          obtain ⟨k, h, rfl, rfl, hkg, HH, rfl⟩ := hrel
          by_cases hkq : k < q
          · have hkz : (k : Int) < (q : Int) := by omega
            obtain ⟨x, hx⟩ : ∃ x, (ys.drop o)[k]? = some x := ⟨_, List.getElem?_eq_getElem (by rw [HQ.out]; exact hkq)⟩
            have hx2 : ys[o + k]? = some x := by rw [← List.getElem?_drop]; exact hx
            have cx := (K6.out.own.num hx2).1
            have hxn : ¬ x < nS := by
              have := HS2.out.2 x (List.mem_of_getElem? hx)
              omega
            have HX := hidp hx
            clear hx hx2
            cases h with
            | true =>
              go_wp2
              go_roundg (q - (k + 1))
              case measure => omega
              case rel => exact ⟨k + 1, true, by go_num, rfl, by omega, here_keep HH.out HX.out, rfl⟩
            | false =>
              by_cases hxe : x = nS
              · subst hxe
                go_wp2
                go_roundg (q - (k + 1))
                case measure => omega
                case rel => exact ⟨k + 1, true, by go_num, rfl, by omega, here_new HX.out, rfl⟩
              · have hxb : (x == nS) = false := beq_eq_false_iff_ne.2 hxe
                have HXE := hidp hxe
                clear hxe
                go_wp2
                go_roundg (q - (k + 1))
                case measure => omega
                case rel => exact ⟨k + 1, false, by go_num, rfl, by omega, here_not HH.out HX.out HXE.out, rfl⟩
          · obtain rfl : k = q := by omega
            have hkz : ¬ ((k : Int) < (k : Int)) := by omega
            have hh : h = true := here_end HH.out (by rw [HQ.out]; exact Nat.le_refl _) HS2.out.1
            subst hh
            clear HH
            go_wp2
            go_roundg (61 - (i + 1))
            case measure => omega
            case rel => exact ⟨i + 1, mT, ys, f4, g5, by go_num, rfl, by omega, by rw [HNN.out]; exact hNi, by omega, K6, Or.inl HT.out.1⟩
    · by_cases hin : i < n
      · obtain rfl : i = 60 := by omega
        have hiz : ((60 : Nat) : Int) < (n : Int) := by omega
        have hiz' : (60 : Int) < (n : Int) := by omega
        go_wp2
        go_ret
        exact ⟨rfl, HB.out.below⟩
      · have hiz : ¬ ((i : Int) < (n : Int)) := by omega
        go_wp2
        go_ret
        exact ⟨rfl, HB.out.below⟩
theorem streamLeast_any (room : Int) (v : Value) (xs : List Int) (w : World) (h : SlE EZ w v xs) :
    Calls Try.prog 3 #[.int .i64 room, v] w fun e w' => e = .returned (.bool true) ∧ Below w.heap.size w w' := by
  by_cases hb : room < 1 ∨ 60 < room
  · obtain ⟨p, cap, rfl, _⟩ := h
    exact least_lost hb p _ cap
  · obtain ⟨r, rfl⟩ : ∃ r : Nat, room = (r : Int) := ⟨room.toNat, by omega⟩
    obtain ⟨p, cap, rfl, hc, hp | ⟨blk, off, rfl, hr⟩⟩ := h
    · subst hp
      exact least_empty r (by omega) (by omega) p cap w
    · exact least_full r (by omega) (by omega) blk off _ cap xs w hr rfl
#print axioms streamLeast_any
end Go.Proofs.Ytcjfbenbdjlodab
