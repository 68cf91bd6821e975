/-
  Package runs: check, and written.
-/
import Derived.Test.YtlaeaeciomkababDoorRnC
import Derived.Test.YtlaeaeciomkababDoorRnR
import Derived.Test.YtlaeaeciomkababDoorSrts
namespace Go.Proofs.YtlaeaeciomkababDoor
open Go.RowKit Go.Sort Go.Proofs

/-- What is wrong with lists. -/
def wrongLL (ls : List (List Int)) : Nat := if 60 < ls.flatten.length then 4 else if ls.any anyZ then 1 else 0
theorem flat_take (ls : List (List Int)) {i : Nat} {l : List Int} (h : ls[i]? = some l) : (ls.take (i + 1)).flatten.length = (ls.take i).flatten.length + l.length := by
  obtain ⟨hi, e⟩ := List.getElem?_eq_some_iff.1 h
  rw [List.take_succ_eq_append_getElem hi, List.flatten_append, List.length_append, e]; simp
theorem flat_le (ls : List (List Int)) (i : Nat) : (ls.take i).flatten.length ≤ ls.flatten.length := by
  conv => rhs; rw [← List.take_append_drop i ls]
  rw [List.flatten_append, List.length_append]; omega
theorem wrongLL_full {ls : List (List Int)} (h : 60 < ls.flatten.length) : wrongLL ls = 4 := by unfold wrongLL; rw [if_pos h]
theorem wrongLL_range {ls : List (List Int)} (h : ls.flatten.length ≤ 60) {i : Nat} {l : List Int} (hi : ls[i]? = some l) (hl : anyZ l = true) : wrongLL ls = 1 := by
  unfold wrongLL
  rw [if_neg (by omega), if_pos (List.any_eq_true.2 ⟨l, List.mem_of_getElem? hi, hl⟩)]
theorem wrongLL_ok {ls : List (List Int)} (h : ls.flatten.length ≤ 60) (hl : ∀ (i : Nat) (l : List Int), ls[i]? = some l → anyZ l = false) : wrongLL ls = 0 := by
  unfold wrongLL
  rw [if_neg (by omega), if_neg]
  intro q
  obtain ⟨l, hm, e⟩ := List.any_eq_true.1 q
  obtain ⟨i, hi⟩ := List.getElem?_of_mem hm
  rw [hl i l hi] at e; cases e
theorem wrongLL_zero {ls : List (List Int)} (h : wrongLL ls = 0) : ls.flatten.length ≤ 60 ∧ ∀ l ∈ ls, ∀ x ∈ l, -1000000 ≤ x ∧ x ≤ 1000000 := by
  unfold wrongLL at h
  by_cases c : 60 < ls.flatten.length
  · rw [if_pos c] at h; cases h
  · rw [if_neg c] at h
    refine ⟨by omega, fun l hl => ?_⟩
    by_cases d : ls.any anyZ = true
    · rw [if_pos d] at h; cases h
    · refine anyZ_no ?_
      cases e : anyZ l
      · rfl
      · exact absurd (List.any_eq_true.2 ⟨l, hl, e⟩) d
set_option maxHeartbeats 8000000 in
set_option maxRecDepth 4000 in
theorem rcheck_any (v : Value) (ls : List (List Int)) (w : World) (h : LLAt w v ls) (hsz : ls.length ≤ 9223372036854775807) (hls : ∀ (i : Nat) (l : List Int), ls[i]? = some l → (ls.take i).flatten.length ≤ 60 → (ls.take i).flatten.length + l.length ≤ 9223372036854775807) :
    Calls Tryd.prog 30 #[v] w fun e w' => e = .returned (errV (wrongLL ls)) ∧ w' = w := by
  obtain ⟨p, cap, rfl⟩ := h.form
  obtain ⟨n, hn⟩ : ∃ n, ls.length = n := ⟨_, rfl⟩
  rw [hn] at h hsz ⊢
  have HL := hidp h
  have HN := hidp hn
  have HLS := hidp hls
  clear h hn hls
  go_enter Tryd.func30, Tryd.ntmps30
  go_wp2
  go_loopg [3, 10] n (fun g mi vi wr => ∃ (i m : Nat), vi = .int .i64 i ∧ mi = .int .i64 m ∧ i + g = n ∧ m ≤ 60 ∧ w = wr ∧ Hid (m = (ls.take i).flatten.length))
  case atStart => exact ⟨0, 0, rfl, rfl, by omega, by omega, rfl, (show Hid ((0 : Nat) = _) from (show (0 : Nat) = _ by simp))⟩
  case round =>
    obtain ⟨i, m, rfl, rfl, hg, hm, hw, HM⟩ := hrel
    subst hw
    by_cases hlt : i < n
    · have hlz : (i : Int) < (n : Int) := by omega
      obtain ⟨l, hl⟩ : ∃ l, ls[i]? = some l := ⟨_, List.getElem?_eq_getElem (by have := HN.out; omega)⟩
      obtain ⟨blk, off, q, c, rfl, hb, c0, hs⟩ := HL.out.row hl
      have hll := HLS.out i l hl (by rw [← HM.out]; exact hm)
      rw [← HM.out] at hll
      have HLI := hidp hl
      obtain ⟨k, hk⟩ : ∃ k, l.length = k := ⟨_, rfl⟩
      rw [hk] at c0 hll
      have HK := hidp hk
      have hwm : IntKind.i64.wrap ((m : Int) + (k : Int)) = (m : Int) + (k : Int) := by rw [IntKind.wrap_i64]; omega
      clear hl hs hk
      by_cases hbig : 60 < m + k
      · have hz : (60 : Int) < (m : Int) + (k : Int) := by omega
        have HF : Hid (wrongLL ls = 4) := by
          show _ = _
          refine wrongLL_full ?_
          have h1 := flat_take ls HLI.out
          have h2 := flat_le ls (i + 1)
          have := HM.out
          have := HK.out
          omega
        go_wp2
        go_ret
        exact ⟨by rw [HF.out]; rfl, rfl⟩
      · have hz : ¬ (60 : Int) < (m : Int) + (k : Int) := by omega
        go_wp2
        go_roundg (n - (i + 1))
        case measure => omega
        case rel =>
          refine ⟨i + 1, m + k, by go_num, by go_num, by omega, by omega, rfl, (show Hid _ from ?_)⟩
          show _ = _
          have h1 := flat_take ls HLI.out
          have := HM.out
          have := HK.out
          omega
    · have hlz : ¬ (i : Int) < (n : Int) := by omega
      have HT : Hid (ls.flatten.length ≤ 60) := by
        show _ ≤ _
        have h1 := HM.out
        rw [List.take_of_length_le (by have := HN.out; omega)] at h1
        omega
      clear HM
      go_wp2
      go_loopg [24] n (fun g vi wr => ∃ (i : Nat), vi = .int .i64 i ∧ i + g = n ∧ w = wr ∧ Hid (∀ (j : Nat) (l : List Int), j < i → ls[j]? = some l → anyZ l = false))
      case atStart => exact ⟨0, rfl, by omega, rfl, (show Hid _ from fun j l hj => by omega)⟩
      case round =>
        obtain ⟨i, rfl, hg, hw, HO⟩ := hrel
        subst hw
        by_cases hlt : i < n
        · have hlz : (i : Int) < (n : Int) := by omega
          obtain ⟨l, hl⟩ : ∃ l, ls[i]? = some l := ⟨_, List.getElem?_eq_getElem (by have := HN.out; omega)⟩
          obtain ⟨blk, off, q, c, rfl, hb, c0, hs⟩ := HL.out.row hl
          have hll : l.length ≤ 4611686018427387904 := by
            have a := flat_take ls hl
            have b := flat_le ls (i + 1)
            have := HT.out
            omega
          have hcon := contains_z _ l w hs hll
          have HLI := hidp hl
          generalize hr' : anyZ l = r at hcon
          have HR := hidp hr'
          generalize l.length = k at c0 hcon
          have C := hidp hcon
          clear hl hs hr' hcon hll
          cases r
          · go_wp2_with (go_at_call 48; refine C.out.mono ?_; rintro e w' ⟨rfl, rfl⟩)
            go_roundg (n - (i + 1))
            case measure => omega
            case rel =>
              refine ⟨i + 1, by go_num, by omega, rfl, (show Hid _ from fun j y hj hy => ?_)⟩
              rcases Nat.lt_or_ge j i with z | z
              · exact HO.out j y z hy
              · obtain rfl : j = i := by omega
                rw [HLI.out] at hy; cases hy; exact HR.out
          · have HF : Hid (wrongLL ls = 1) := by show _ = _; exact wrongLL_range HT.out HLI.out HR.out
            go_wp2_with (go_at_call 48; refine C.out.mono ?_; rintro e w' ⟨rfl, rfl⟩)
            go_ret
            exact ⟨by rw [HF.out]; rfl, rfl⟩
        · have hlz : ¬ (i : Int) < (n : Int) := by omega
          have HF : Hid (wrongLL ls = 0) := by
            show _ = _
            exact wrongLL_ok HT.out fun j l hj => HO.out j l (by have := HN.out; have := (List.getElem?_eq_some_iff.1 hj).1; omega) hj
          go_wp2
          go_ret
          exact ⟨by rw [HF.out]; rfl, rfl⟩
#print axioms rcheck_any

/-- A number put to the end of a run, which may be a new one. -/
def putR (rows : List (List Int)) (r : Nat) (n : Int) : List (List Int) := if r = rows.length then rows ++ [[n]] else rows.set r (rows.getD r [] ++ [n])
theorem putR_new {rows : List (List Int)} {n : Int} : (rows ++ [[]]).set rows.length ([] ++ [n]) = putR rows rows.length n := by
  unfold putR
  rw [if_pos rfl, List.set_append_right _ _ (Nat.le_refl _), Nat.sub_self]; rfl
theorem newZ (W : World) (gx : Nat) (hg : gx = W.heap.size) (c : Int) : ∀ j u, (EZ.enc c)[j]? = some u → (W.alloc (.cells #[.int .i64 c] 3)).cell? ((⟨gx, 0, none⟩ : Addr).add j) = some u := by
  subst hg
  intro j u hu
  match j, hu with
  | 0, hu => cases hu; simp [Addr.add]
  | j + 1, hu => simp [EZ, encZ] at hu
theorem newVnil (W : World) : ∀ j u, (EV.enc (none, 0, 0))[j]? = some u → (W.alloc (.cells #[.slice none 0 0] 22)).cell? ((⟨W.heap.size, 0, none⟩ : Addr).add j) = some u := by
  intro j u hu
  match j, hu with
  | 0, hu => cases hu; simp [Addr.add]
  | j + 1, hu => simp [EV, encV] at hu
theorem sv_of {p : Option Addr} {n c : Nat} : Value.slice p n c = svV (p, n, c) := rfl
set_option maxHeartbeats 8000000 in
set_option maxRecDepth 100000 in
theorem written_old {w : World} {v : Value} {ss : List Sv} {rows : List (List Int)} {f : List Nat} {r : Nat} {c : Int} (h : RowsS w v ss rows f) (hf : f.Nodup) (hr : r < rows.length) (hl : rows.length ≤ 1000) (hl2 : ∀ (i : Nat) (l : List Int), rows[i]? = some l → l.length ≤ 1000) :
    Calls Tryd.prog 54 #[v, .agg #[.int .i64 r, .int .i64 c]] w fun e w' => ∃ ss' f', e = .returned v ∧ RowsS w' v ss' (putR rows r c) f' ∧ Step f f' w w' := by
  obtain ⟨g, cap, rfl, hcp⟩ := own_someE (n := rows.length) h.own h.len (by omega)
  obtain ⟨s, hs⟩ : ∃ s, ss[r]? = some s := ⟨_, List.getElem?_eq_getElem (by rw [h.len]; exact hr)⟩
  obtain ⟨l, hl3, hol⟩ := h.rowOf hs
  have hlen := hl2 r l hl3
  have hput : rows.set r (l ++ [c]) = putR rows r c := by
    unfold putR
    rw [if_neg (by omega)]
    congr 2
    rw [List.getD_eq_getElem?_getD, hl3]; rfl
  obtain ⟨q, k, c1⟩ := s
  obtain ⟨cs, fs, hgl⟩ := h.own.cellE hs (c := 0) (v := .slice q k c1) rfl
  simp only [EV, Nat.mul_one, Nat.add_zero] at cs fs
  have hrz : (r : Int) < (rows.length : Int) := by omega
  have hrn : ((r : Int) == (rows.length : Int)) = false := beq_eq_false_iff_ne.2 (by omega)
  have HH := hidp h
  have HF := hidp hf
  have HS := hidp hs
  have HL3 := hidp hl3
  have HOL := hidp hol
  have HPUT := hidp hput
  have HLEN := hidp hlen
  have HLT := hidp h.lt
  have hgf : g ∈ f := by rw [h.bf]; simp [Value.ownBlock]
  have HGF := hidp hgf
  clear h hf hs hl3 hol hput hl2 hlen hgf
  go_enter Tryd.func54, Tryd.ntmps54
  go_wp2_with fail
  have b0 : (w.alloc (.cells #[.int .i64 r, .int .i64 c] 88)).cell? ⟨w.heap.size, 0, none⟩ = some (.int .i64 r) := by simp
  have b1 : (w.alloc (.cells #[.int .i64 r, .int .i64 c] 88)).cell? ⟨w.heap.size, 1, none⟩ = some (.int .i64 c) := by simp
  have HB0 : Hid (Below w.heap.size w (w.alloc (.cells #[.int .i64 r, .int .i64 c] 88))) := (Below.refl _ w).alloc (Nat.le_refl _) _
  generalize w.alloc (.cells #[.int .i64 r, .int .i64 c] 88) = wb at b0 b1 HB0 ⊢
  have d0 : wb.cell? ⟨g, r, none⟩ = some (.slice q k c1) := (World.cell?_of_block (a := ⟨g, r, none⟩) (HB0.out.block g hgl)).trans cs
  have e0 : wb.frozen? ⟨g, r, none⟩ = false := (World.frozen?_of_block (a := ⟨g, r, none⟩) (HB0.out.block g hgl)).trans fs
  have hglb : g < wb.heap.size := Nat.lt_of_lt_of_le hgl HB0.out.size
  have hwl : w.heap.size < wb.heap.size := lt_of_cellQ b0
  clear cs fs
  have HOLb : Hid (OwnE EZ wb 0 (.slice q k c1) l) := HOL.out.below HB0.out
  have hself : ∀ j, some w.heap.size = (Value.slice q k c1).ownBlock → j = w.heap.size → False := fun j e _ => by
    have h1 : w.heap.size ∈ f := by
      rw [HH.out.bf]
      exact List.mem_append_right _ (mem_blks HS.out (by unfold blkS svV; rw [← e]; simp))
    have := HLT.out _ h1
    omega
  have HSELF := hidp hself
  have HBW : Hid (∀ (i : Nat) (u : Value) (W : World), ((wb.alloc (.cells #[.int .i64 c] 3)).drewN 1).grownBy W (Value.slice q k c1).ownBlock → wb.cell? ⟨w.heap.size, i, none⟩ = some u → W.cell? ⟨w.heap.size, i, none⟩ = some u) := fun i u W hg hc =>
    (World.cell?_of_block (a := ⟨w.heap.size, i, none⟩) (hg.block w.heap.size (by simp; omega) (fun e => HSELF.out _ e rfl))).trans ((World.cell?_of_block (a := ⟨w.heap.size, i, none⟩) (Below.heap_alloc wb _ _ hwl)).trans hc)
  clear hself
  go_region_law (refine step_appendQ EZ (by rfl) (.tmp 20) (.tmp 23) (by rfl) 0 (.slice q k c1) l c ⟨wb.heap.size, 0, none⟩ 1 (by rfl) (OwnE.drewN (OwnE.alloc HOLb.out _) 1) (by rfl) (newZ wb _ rfl _) (by have := HLEN.out; omega) (Nat.zero_le _) ?_; intro v1 w1 a1 a2 a3; obtain ⟨p1, n1, hv1⟩ := OwnE.form a1; rw [List.length_append, List.length_singleton] at hv1; subst hv1; obtain ⟨f', hR, hS, cc, fc⟩ := RowsS.put HH.out HF.out (s1 := (p1, l.length + 1, n1)) (below_drewN (HB0.out.alloc HB0.out.size _) 1) HS.out HL3.out a1 a2 a3; have HR := hidp hR; have HST := hidp hS; have x0 : w1.cell? ⟨g, r, none⟩ = some (.slice q k c1) := cc; have y0 := HBW.out 0 _ _ a2 b0; have y1 := HBW.out 1 _ _ a2 b1; clear a1 a2 a3 hR hS cc)
  all_goals
    go_wp2
    go_ret
    rw [HPUT.out] at HR
    exact ⟨_, f', rfl, HR.out, HST.out⟩
#print axioms written_old
end Go.Proofs.YtlaeaeciomkababDoor
