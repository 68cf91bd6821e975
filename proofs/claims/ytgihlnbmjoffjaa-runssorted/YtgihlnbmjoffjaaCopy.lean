/-
  copy at items; rows of one's own that make and copy lay.
-/
import Derived.Test.YtgihlnbmjoffjaaRd
import Derived.OwnWalk
import Derived.Laws.IdiomCopy
namespace Go.Proofs.Ytgihlnbmjoffjaa
open Go.RowKit Go.Sort Go.Proofs

/-! ### copy at elements of k cells -/
theorem run_copyK {P : Program} (w : World) (dT sT ty elem : TypeId) (k b o dLen dCap : Nat) (a : Addr) (sLen sCap : Nat) (cs : List Value)
    (hu : P.underlying dT = some (.slice elem)) (hs : (P.info? elem).map (·.size) = some k) (hn : cs.length = Nat.min sLen dLen * k)
    (hsrc : ∀ j v, cs[j]? = some v → w.cell? (a.add j) = some v) (hc : ∀ j, j < cs.length → (w.cell? ⟨b, o + j, none⟩).isSome = true) (hf : ∀ j, j < cs.length → w.frozen? ⟨b, o + j, none⟩ = false) (h1 : ∀ v ∈ cs, v.oneCell' = true) :
    (Builtin.copy_ #[dT, sT] ty #[.slice (some ⟨b, o, none⟩) dLen dCap, .slice (some a) sLen sCap]).run P w = .ok (goInt (Nat.min sLen dLen)) (w.setCells b o cs) := by
  have hl := run_loadCells_list (P := P) w a cs hsrc
  have hst := run_storeCells_cells (P := P) b o cs 0 w (by simpa using hc) (by simpa using hf) h1
  cases hq : P.info? elem with
  | none => simp [hq] at hs
  | some i =>
    have hi : i.size = k := by simpa [hq] using hs
    simp [Builtin.copy_, run_underlying hu, Builtin.lenOf, Builtin.firstCells, sizeOf, typeInfo, hq, hi, ← hn, hl, hst]
theorem run_copyK_none {P : Program} (w : World) (dT sT ty elem : TypeId) (k : Nat) (d a : Option Addr) (dLen dCap sLen sCap : Nat) (hu : P.underlying dT = some (.slice elem)) (hs : (P.info? elem).map (·.size) = some k) (hn : Nat.min sLen dLen = 0) :
    (Builtin.copy_ #[dT, sT] ty #[.slice d dLen dCap, .slice a sLen sCap]).run P w = .ok (goInt 0) w := by
  cases hq : P.info? elem with
  | none => simp [hq] at hs
  | some i =>
    have hl : ∀ (x : Addr), (loadCells x 0).run P w = .ok #[] w := fun x => by simpa using run_loadCells_list (P := P) w x [] (by simp)
    cases d <;> cases a <;> simp [Builtin.copy_, run_underlying hu, Builtin.lenOf, Builtin.firstCells, sizeOf, typeInfo, hq, hn, storeCells, hl]
theorem wpList_copyK {P : Program} {w : World} {ops : Array Oper} {rest : List Oper} {o : Oper} {a : Act} {Q : Exit → Act → World → Prop} (hgd : o.guard = none) (d s : Operand) (dT sT : TypeId)
    (ho : o.op = .call { callee := .builtin .copy, args := #[d, s], argTypes := #[dT, sT] }) (elem : TypeId) (hu : P.underlying dT = some (.slice elem)) (k : Nat) (hsz : (P.info? elem).map (·.size) = some k)
    (g off dLen dCap : Nat) (ad : Addr) (sLen sCap : Nat) (hd : a.eval d = .slice (some ⟨g, off, none⟩) dLen dCap) (hs : a.eval s = .slice (some ad) sLen sCap)
    (cs : List Value) (hn : cs.length = Nat.min sLen dLen * k)
    (hsrc : ∀ j v, cs[j]? = some v → w.cell? (ad.add j) = some v) (hc : ∀ j, j < cs.length → (w.cell? ⟨g, off + j, none⟩).isSome = true) (hf : ∀ j, j < cs.length → w.frozen? ⟨g, off + j, none⟩ = false) (h1 : ∀ v ∈ cs, v.oneCell' = true)
    (h : wpList P ops Q rest (a.put o.dst (goInt (Nat.min sLen dLen))) (w.setCells g off cs)) : wpList P ops Q (o :: rest) a w := by
  refine wpList_plain hgd fun K hK => ?_
  have hrun := run_copyK (P := P) w dT sT o.type elem k g off dLen dCap ad sLen sCap cs hu hsz hn hsrc hc hf h1
  unfold Oper.wp
  simp [execOp, ho, resolve, invoke, builtin, hd, hs, hrun, Result.andThen]
  exact hK _ _ h
theorem wpList_copyK_none {P : Program} {w : World} {ops : Array Oper} {rest : List Oper} {o : Oper} {a : Act} {Q : Exit → Act → World → Prop} (hgd : o.guard = none) (d s : Operand) (dT sT : TypeId)
    (ho : o.op = .call { callee := .builtin .copy, args := #[d, s], argTypes := #[dT, sT] }) (elem : TypeId) (hu : P.underlying dT = some (.slice elem)) (k : Nat) (hsz : (P.info? elem).map (·.size) = some k)
    (dp sp : Option Addr) (dLen dCap sLen sCap : Nat) (hd : a.eval d = .slice dp dLen dCap) (hs : a.eval s = .slice sp sLen sCap) (hn : Nat.min sLen dLen = 0)
    (h : wpList P ops Q rest (a.put o.dst (goInt 0)) w) : wpList P ops Q (o :: rest) a w := by
  refine wpList_plain hgd fun K hK => ?_
  have hrun := run_copyK_none (P := P) w dT sT o.type elem k dp sp dLen dCap sLen sCap hu hsz hn
  unfold Oper.wp
  simp [execOp, ho, resolve, invoke, builtin, hd, hs, hrun, Result.andThen]
  exact hK _ _ h

/-! ### rows of items, flat -/
theorem flatI_get (xs : Array (Int × Int)) (t : Nat) (h : t < xs.size * 2) : (flatK encI 2 xs)[t]! = if t % 2 = 0 then .int .i64 xs[t / 2]!.1 else .int .i64 xs[t / 2]!.2 := by
  rw [get_flatK _ _ _ _ h]
  unfold encI
  split
  · rename_i e; rw [e]; rfl
  · rename_i e; rw [show t % 2 = 1 by omega]; rfl
theorem RdAt.flat {w : World} {blk off : Nat} {xs : Array (Int × Int)} (h : RdAt w blk off xs) (t : Nat) (ht : t < xs.size * 2) : w.cell? ⟨blk, off + t, none⟩ = some (flatK encI 2 xs)[t]! := by
  rw [flatI_get xs t ht]
  have := h.2 (t / 2) (by omega)
  by_cases c : t % 2 = 0
  · rw [if_pos c, show off + t = off + t / 2 * 2 by omega]; exact this.1
  · rw [if_neg c, show off + t = off + t / 2 * 2 + 1 by omega]; exact this.2
theorem flatI_one (xs : Array (Int × Int)) : ∀ v ∈ (flatK encI 2 xs).toList, v.oneCell' = true := by
  intro v hv
  obtain ⟨t, ht, rfl⟩ := List.getElem_of_mem hv
  have ht' : t < xs.size * 2 := by simpa using ht
  have e : (flatK encI 2 xs).toList[t] = (flatK encI 2 xs)[t]! := by rw [getElem!_pos _ t (by simpa using ht'), Array.getElem_toList]
  rw [e, flatI_get xs t ht']
  split <;> rfl
theorem holdsK_of_copy {w : World} {g : Nat} {xs : Array (Int × Int)} (hc : ∀ j, j < xs.size * 2 → (w.cell? ⟨g, j, none⟩).isSome = true) (hf : ∀ j, j < xs.size * 2 → w.frozen? ⟨g, j, none⟩ = false) :
    HoldsK encI 2 (w.setCells g 0 (flatK encI 2 xs).toList) g 0 xs := by
  intro j hj
  have hj' : j < xs.size * 2 := by simpa using hj
  refine ⟨?_, by rw [World.frozen?_setCells]; simpa using hf j hj'⟩
  have := World.cell?_setCells_in g (flatK encI 2 xs).toList 0 w (fun i hi => by simpa using hc i (by simpa using hi)) j (by simpa using hj')
  rw [this, Array.getElem_toList, getElem!_pos _ j hj]
  rfl
theorem below_setCells {B g : Nat} {w0 : World} (hBg : B ≤ g) : ∀ (vs : List Value) (o : Nat) (w : World), Below B w0 w → Below B w0 (w.setCells g o vs)
  | [], _, _, h => h
  | v :: r, o, w, h => by rw [World.setCells]; exact below_setCells hBg r (o + 1) _ (h.setCell (p := ⟨g, o, none⟩) hBg v)
theorem errV_zero : errV 0 = .nilIface := rfl
theorem errV_pos {k : Nat} (h : k ≠ 0) : errV k = .iface 39 (.int .i64 k) := if_neg h
theorem wrong_le {xs : Array (Int × Int)} (h : wrong xs = 0) : xs.size ≤ 60 := by
  unfold wrong at h
  by_cases c : 60 < xs.size
  · rw [if_pos c] at h; omega
  · omega

theorem info_item : (Try.prog.info? 33).map (fun i => (i.zero, i.size, i.bytes)) = some (some (.agg #[.int .i64 0, .int .i64 0]), 2, 16) := by kernel_rfl
theorem size_item : (Try.prog.info? 33).map (·.size) = some 2 := by kernel_rfl

theorem owned_cells {w : World} {base n g : Nat} {L : List Value} (h : w.ownsRow base 33 2 (.slice (some ⟨g, 0, none⟩) n n) n L) :
    g < w.heap.size ∧ (∀ j, j < n * 2 → (w.cell? ⟨g, j, none⟩).isSome = true) ∧ ∀ j, j < n * 2 → w.frozen? ⟨g, j, none⟩ = false := by
  obtain ⟨_, ⟨h, _⟩ | ⟨g', cap, cur, e, _, hg, _, _, hs, _⟩⟩ := h
  · cases h
  · simp only [Value.slice.injEq, Option.some.injEq, Addr.mk.injEq] at e
    obtain ⟨⟨rfl, _⟩, _, rfl⟩ := e
    have hlt : g < w.heap.size := (Array.getElem?_eq_some_iff.1 hg).1
    refine ⟨hlt, fun j hj => ?_, fun j hj => ?_⟩
    · simp [World.cell?, hg, show j < cur.size by omega]
    · simp [World.frozen?, hg]


end Go.Proofs.Ytgihlnbmjoffjaa
