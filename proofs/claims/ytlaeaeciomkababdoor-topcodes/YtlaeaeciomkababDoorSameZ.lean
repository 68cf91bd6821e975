/-
  Whole numbers: a box with one, a new row of them; the statements' own comparison of lists of them.
-/
import Derived.Test.YtlaeaeciomkababDoorElZ
import Derived.Test.YtlaeaeciomkababDoorHide
namespace Go.Proofs.YtlaeaeciomkababDoor
open Go.RowKit Go.Proofs

theorem SlE.len {w : World} {p : Option Addr} {n cap : Nat} {l : List Int} (h : SlE EZ w (.slice p n cap) l) : n = l.length ∧ n ≤ cap := by
  obtain ⟨p', c', e, hc, _⟩ := h
  simp only [Value.slice.injEq] at e
  obtain ⟨_, rfl, rfl⟩ := e
  exact ⟨rfl, hc⟩
theorem box_one (W : World) (c : Int) : ∀ j u, (EZ.enc c)[j]? = some u → (W.alloc (.cells #[.int .i64 c] 3)).cell? ((⟨W.heap.size, 0, none⟩ : Addr).add j) = some u := by
  intro j u hu
  match j, hu with
  | 0, hu => cases hu; simp [Addr.add]
  | j + 1, hu => simp [EZ, encZ] at hu
theorem new_nums (W : World) (xs : List Int) (T : TypeId) (n k : Nat) (hn : xs.length = n) (hk : n ≤ k) : SlE EZ (W.alloc (.cells ((xs.map fun x => Value.int .i64 x).toArray) T)) (.slice (some ⟨W.heap.size, 0, none⟩) n k) xs := by
  refine SlE.of_rd ⟨by simp, fun j u hu => ?_⟩ hn hk
  have e : EZ.flat xs = xs.map fun x => Value.int .i64 x := by
    clear hn hu
    induction xs with
    | nil => rfl
    | cons a t ih => rw [El.flat_cons, ih]; rfl
  rw [e] at hu
  have h1 : (W.alloc (.cells ((xs.map fun x => Value.int .i64 x).toArray) T)).heap[W.heap.size]? = some (.cells ((xs.map fun x => Value.int .i64 x).toArray) T) := by show (W.heap.push _)[W.heap.size]? = _; rw [Array.getElem?_push_size]
  simp only [World.cell?, h1]
  rw [Nat.zero_add]
  simpa using hu
set_option maxHeartbeats 4000000 in
theorem sameI_any {w : World} {va vb : Value} {xs ys : List Int} (ha : SlE EZ w va xs) (hb : SlE EZ w vb ys) (hbig : xs.length ≤ 9223372036854775807) :
    Calls Tryd.prog 7 #[va, vb] w fun e w' => e = .returned (.bool (decide (xs = ys))) ∧ ∃ q, w' = w.drewN q := by
  obtain ⟨pa, ca, rfl, _⟩ := id ha
  obtain ⟨pb, cb, rfl, _⟩ := id hb
  by_cases hl : xs.length = ys.length
  · obtain ⟨n, hn⟩ : ∃ n, xs.length = n := ⟨_, rfl⟩
    rw [hn] at ha hl hbig ⊢
    rw [← hl] at hb ⊢
    have HA := hidp ha
    have HB := hidp hb
    have HN := hidp hn
    have HL := hidp hl
    have hnn : ((n : Int) != (n : Int)) = false := by simp
    clear ha hb hn hl
    go_enter Tryd.func7, Tryd.ntmps7
    go_wp2
    go_loopg [5] n (fun g vi wr => ∃ i : Nat, vi = .int .i64 i ∧ i + g = n ∧ Hid (∃ q, wr = w.drewN q) ∧ Hid (∀ j, j < i → xs[j]? = ys[j]?))
    case atStart => exact ⟨0, rfl, by omega, (show Hid _ from ⟨0, rfl⟩), (show Hid _ from fun j hj => by omega)⟩
    case round =>
      obtain ⟨i, rfl, hg, HW, HO⟩ := hrel
      by_cases hlt : i < n
      · have hlz : (i : Int) < (n : Int) := by omega
        obtain ⟨b1, o1, rfl, _, _, hr1⟩ := HA.out.some (by omega)
        obtain ⟨b2, o2, rfl, _, _, hr2⟩ := HB.out.some (by omega)
        obtain ⟨x, hx⟩ : ∃ x, xs[i]? = some x := ⟨_, List.getElem?_eq_getElem (by have := HN.out; omega)⟩
        obtain ⟨y, hy⟩ : ∃ y, ys[i]? = some y := ⟨_, List.getElem?_eq_getElem (by have := HL.out; omega)⟩
        have c0 : wr.cell? ⟨b1, o1 + i, none⟩ = some (.int .i64 x) := by obtain ⟨q, hq⟩ := HW.out; rw [hq]; exact hr1.int hx
        have c1 : wr.cell? ⟨b2, o2 + i, none⟩ = some (.int .i64 y) := by obtain ⟨q, hq⟩ := HW.out; rw [hq]; exact hr2.int hy
        have HX := hidp hx
        have HY := hidp hy
        clear hx hy hr1 hr2
        by_cases hxy : x = y
        · subst hxy
          have hd : (x != x) = false := by simp
          go_wp2_with fail
          go_quiet (fail)
          go_wp2
          go_roundg (n - (i + 1))
          case measure => omega
          case rel =>
            refine ⟨i + 1, by go_num, by omega, (show Hid _ from (by obtain ⟨q, hq⟩ := HW.out; exact ⟨_, by rw [hq, World.drewN_drewN]⟩)), (show Hid _ from fun j hj => ?_)⟩
            rcases Nat.lt_or_ge j i with z | z
            · exact HO.out j z
            · obtain rfl : j = i := by omega
              rw [HX.out, HY.out]
        · have hd : (x != y) = true := bne_iff_ne.2 hxy
          have HF : Hid (decide (xs = ys) = false) := decide_eq_false fun e => hxy (by have h1 := HX.out; rw [e, HY.out] at h1; exact (Option.some.inj h1).symm)
          go_wp2_with fail
          go_quiet (fail)
          go_wp2
          go_ret
          obtain ⟨q, hq⟩ := HW.out
          exact ⟨by rw [HF.out]; rfl, _, by rw [hq, World.drewN_drewN]⟩
      · have hlz : ¬ (i : Int) < (n : Int) := by omega
        have HT : Hid (decide (xs = ys) = true) := decide_eq_true (List.ext_getElem? fun j => by
          rcases Nat.lt_or_ge j i with z | z
          · exact HO.out j z
          · rw [List.getElem?_eq_none (by have := HN.out; omega), List.getElem?_eq_none (by have := HL.out; omega)])
        go_wp2
        go_ret
        obtain ⟨q, hq⟩ := HW.out
        exact ⟨by rw [HT.out]; rfl, _, hq⟩
  · have HF : Hid (decide (xs = ys) = false) := decide_eq_false fun e => hl (by rw [e])
    have hd : ((xs.length : Int) != (ys.length : Int)) = true := bne_iff_ne.2 (by omega)
    clear ha hb
    go_enter Tryd.func7, Tryd.ntmps7
    go_wp2
    go_ret
    exact ⟨by rw [HF.out]; rfl, 0, rfl⟩
#print axioms sameI_any
end Go.Proofs.YtlaeaeciomkababDoor
