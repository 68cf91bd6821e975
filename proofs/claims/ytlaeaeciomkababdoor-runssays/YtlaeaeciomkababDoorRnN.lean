/-
  Package runs: written, at a new run. (Written by wip/gen/rnn.py.)
-/
import Derived.Test.YtlaeaeciomkababDoorRnK
namespace Go.Proofs.YtlaeaeciomkababDoor
open Go.RowKit Go.Sort Go.Proofs

set_option maxHeartbeats 8000000 in
set_option maxRecDepth 100000 in
theorem written_new {w : World} {v : Value} {ss : List Sv} {rows : List (List Int)} {f : List Nat} {c : Int} (h : RowsS w v ss rows f) (hf : f.Nodup) (hl : rows.length ≤ 1000) :
    Calls Tryd.prog 54 #[v, .agg #[.int .i64 rows.length, .int .i64 c]] w fun e w' => ∃ v' ss' f', e = .returned v' ∧ RowsS w' v' ss' (putR rows rows.length c) f' ∧ Step f f' w w' := by
  obtain ⟨pv, cv, rfl⟩ := h.form
  obtain ⟨n, hn⟩ : ∃ n, rows.length = n := ⟨_, rfl⟩
  have hrn : ((n : Int) == (n : Int)) = true := by simp
  have hput : (rows ++ [[]]).set n ([] ++ [c]) = putR rows n c := by rw [← hn]; exact putR_new
  have hss : ss.length = n := by rw [h.len]; exact hn
  rw [hn] at hl h ⊢
  have HB0 : Hid (Below w.heap.size w (w.alloc (.cells #[.int .i64 n, .int .i64 c] 88))) := (Below.refl _ w).alloc (Nat.le_refl _) _
  have HHb : Hid (RowsS (w.alloc (.cells #[.int .i64 n, .int .i64 c] 88)) (.slice pv n cv) ss rows f) := h.below HB0.out
  have HBb : Hid (Below (w.alloc (.cells #[.int .i64 n, .int .i64 c] 88)).heap.size (w.alloc (.cells #[.int .i64 n, .int .i64 c] 88)) ((w.alloc (.cells #[.int .i64 n, .int .i64 c] 88)).alloc (.cells #[.slice none 0 0] 22))) := (Below.refl _ _).alloc (Nat.le_refl _) _
  have HOA : Hid (OwnE EV ((w.alloc (.cells #[.int .i64 n, .int .i64 c] 88)).alloc (.cells #[.slice none 0 0] 22)) 0 (.slice pv n cv) ss) := HHb.out.own.alloc _
  have HNEW : Hid (∀ j u, (EV.enc (none, 0, 0))[j]? = some u → ((w.alloc (.cells #[.int .i64 n, .int .i64 c] 88)).alloc (.cells #[.slice none 0 0] 22)).cell? ((⟨w.heap.size + 1, 0, none⟩ : Addr).add j) = some u) := by
    have := newVnil (w.alloc (.cells #[.int .i64 n, .int .i64 c] 88))
    rw [World.size_alloc] at this
    exact this
  have HLT := hidp h.lt
  have HBX : Hid (∀ (i : Nat) (u : Value) (W : World), ((w.alloc (.cells #[.int .i64 n, .int .i64 c] 88)).alloc (.cells #[.slice none 0 0] 22)).grownBy W (Value.slice pv n cv).ownBlock → (w.alloc (.cells #[.int .i64 n, .int .i64 c] 88)).cell? ⟨w.heap.size, i, none⟩ = some u → W.cell? ⟨w.heap.size, i, none⟩ = some u) := fun i u W hg hc =>
    (World.cell?_of_block (a := ⟨w.heap.size, i, none⟩) (hg.block w.heap.size (by simp; omega) (fun e => by
      have h1 : w.heap.size ∈ f := by rw [h.bf]; exact List.mem_append_left _ (by rw [← e]; simp)
      have := HLT.out _ h1
      omega))).trans ((World.cell?_of_block (a := ⟨w.heap.size, i, none⟩) (Below.heap_alloc (w.alloc (.cells #[.int .i64 n, .int .i64 c] 88)) _ _ (by simp))).trans hc)
  have HF := hidp hf
  have HPUT := hidp hput
  have HN := hidp hn
  have HLEN := hidp hss
  clear h hf hput hn hss
  go_enter Tryd.func54, Tryd.ntmps54
  go_wp2_with (at_builtin; refine wpList_appendE EV rfl (.tmp 10) (.tmp 11) rfl 0 _ ss (none, 0, 0) ⟨w.heap.size + 1, 0, none⟩ 1 rfl HOA.out rfl HNEW.out (by have := HLEN.out; omega) (Nat.zero_le _) ?_; intro v1 w1 a1 a2 a3; obtain ⟨hR, hS⟩ := RowsS.more HHb.out HF.out HBb.out a1 a2 a3; have y0 := HBX.out 0 (.int .i64 n) _ a2 (by simp); have y1 := HBX.out 1 (.int .i64 c) _ a2 (by simp); obtain ⟨g, cp, hv1, _⟩ := own_someE a1 (n := n + 1) (by rw [List.length_append, HLEN.out]; rfl) (Nat.succ_pos _); subst hv1; have HR1 := hidp hR; have HS1 := hidp hS; clear a1 a2 a3 hR hS)
  have HS0 : Hid (Step f f w (w.alloc (.cells #[.int .i64 n, .int .i64 c] 88))) := Step.below HF.out HB0.out
  clear HBX HNEW HOA HBb HHb HB0
  generalize hwb : (w.alloc (.cells #[.int .i64 n, .int .i64 c] 88)) = wb at HS1 HS0
  have hsb : w.heap.size < wb.heap.size := by rw [← hwb]; simp
  clear hwb
  have hgin : (Value.slice (some ⟨g, 0, none⟩) (n + 1) cp).ownBlock = some g := rfl
  rw [hgin] at HR1 HS1
  generalize (some g).toList ++ blks ss = f1 at HR1 HS1
  have hwl : w.heap.size < w1.heap.size := lt_of_cellQ y0
  obtain ⟨d0, e0, hgl⟩ := HR1.out.own.cellE (i := n) (x := (none, 0, 0)) (by rw [← HLEN.out]; simp) (c := 0) (v := .slice none 0 0) rfl
  simp only [EV, Nat.mul_one, Nat.add_zero] at d0 e0
  have hrz : (n : Int) < (n : Int) + 1 := by omega
  have HS : Hid ((ss ++ [((none, 0, 0) : Sv)])[n]? = some (none, 0, 0)) := by show _ = _; rw [← HLEN.out]; simp
  have HL3 : Hid ((rows ++ [[]])[n]? = some []) := by show _ = _; rw [← HN.out]; simp
  have HBW : Hid (∀ (i : Nat) (u : Value) (W : World), ((w1.alloc (.cells #[.int .i64 c] 3)).drewN 1).grownBy W (Value.slice none 0 0).ownBlock → w1.cell? ⟨w.heap.size, i, none⟩ = some u → W.cell? ⟨w.heap.size, i, none⟩ = some u) := fun i u W hg hc =>
    (World.cell?_of_block (a := ⟨w.heap.size, i, none⟩) (hg.block w.heap.size (by simp; omega) (fun e => by cases e))).trans ((World.cell?_of_block (a := ⟨w.heap.size, i, none⟩) (Below.heap_alloc w1 _ _ hwl)).trans hc)
  have HON : Hid (OwnE EZ w1 0 (.slice none 0 0) []) := OwnE.nil EZ w1 0
  go_region_law (refine step_appendQ EZ (by rfl) (.tmp 20) (.tmp 23) (by rfl) 0 (.slice none 0 0) [] c ⟨w1.heap.size, 0, none⟩ 1 (by rfl) (OwnE.drewN (OwnE.alloc HON.out _) 1) (by rfl) (newZ w1 _ rfl _) (by simp) (Nat.zero_le _) ?_; intro v2 w2 a1 a2 a3; obtain ⟨p1, n1, hv2⟩ := OwnE.form a1; rw [List.length_append, List.length_singleton, List.length_nil, Nat.zero_add] at hv2; subst hv2; obtain ⟨f', hR, hS, cc, fc⟩ := RowsS.put HR1.out HS1.out.nodup (s1 := (p1, 1, n1)) (below_drewN ((Below.refl _ w1).alloc (Nat.le_refl _) _) 1) HS.out HL3.out a1 a2 a3; have HR := hidp hR; have HST := hidp hS; have x0 : w2.cell? ⟨g, n, none⟩ = some (.slice none 0 0) := cc; have z0 := HBW.out 0 _ _ a2 y0; have z1 := HBW.out 1 _ _ a2 y1; clear a1 a2 a3 hR hS cc)
  all_goals
    go_wp2
    go_ret
    rw [HPUT.out] at HR
    exact ⟨_, _, f', rfl, HR.out, HS0.out.trans (HS1.out.trans HST.out)⟩
#print axioms written_new
/-- Package runs' written. -/
theorem written_any {w : World} {v : Value} {ss : List Sv} {rows : List (List Int)} {f : List Nat} {r : Nat} {c : Int} (h : RowsS w v ss rows f) (hf : f.Nodup) (hr : r ≤ rows.length) (hl : rows.length ≤ 1000) (hl2 : ∀ (i : Nat) (l : List Int), rows[i]? = some l → l.length ≤ 1000) :
    Calls Tryd.prog 54 #[v, .agg #[.int .i64 r, .int .i64 c]] w fun e w' => ∃ v' ss' f', e = .returned v' ∧ RowsS w' v' ss' (putR rows r c) f' ∧ Step f f' w w' := by
  rcases Nat.lt_or_ge r rows.length with q | q
  · exact (written_old h hf q hl hl2).mono fun e w' ⟨ss', f', a, b, d⟩ => ⟨_, ss', f', a, b, d⟩
  · obtain rfl : r = rows.length := by omega
    exact written_new h hf hl
#print axioms written_any
end Go.Proofs.YtlaeaeciomkababDoor
