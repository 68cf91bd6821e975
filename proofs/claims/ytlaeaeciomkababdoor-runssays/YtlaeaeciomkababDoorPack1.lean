/-
  Texts that the proof leans on, packed: Open, OpenZ, OpenL, As, Told, LawRSays.
-/
import Derived.Test.YtlaeaeciomkababDoorRows
import Derived.Test.YtlaeaeciomkababDoorRd
import Derived.Deep.SlicePairs
import Derived.OpenShut
import Derived.ChangeOld
import Derived.Test.YtlaeaeciomkababDoorElZ
import Derived.ChangeSlices
import Derived.Test.YtlaeaeciomkababDoorElV
import Derived.SizedLaws
import Derived.LaidEql
import Derived.Stop.Asserts
import Derived.RowKitTokens
import Derived.Test.YtlaeaeciomkababDoorRefR6
import Derived.Test.YtlaeaeciomkababDoorRefR3
import Derived.Test.YtlaeaeciomkababDoorKeysS

/-
  A list of items that came in, read: what the walks are told of it.
-/
namespace Go.Proofs.YtlaeaeciomkababDoor
open Go.RowKit Go.Sort Go.Proofs Go.Deep Go.ChangeShapes Go.WideShapes

theorem knob : ownKnob Tryd.prog.godebug = none := by kernel_rfl
theorem laidOut : laidOutB Tryd.prog = true := by kernel_rfl
theorem cells_int : Tryd.prog.cellsOf 3 = 1 := by kernel_rfl
theorem cells_item : Tryd.prog.cellsOf 99 = 2 := by kernel_rfl
theorem open_items {H : Type} {enc : TypeId × Value → H} {W : World} {fuel : Nat} {p : Option Addr} {len cap : Nat} {x : DataW H × List MemPlace}
    (h : DataW.trod enc Tryd.prog W 0 (fun _ => true) true fuel 97 [.slice p len cap] = some x) : ∃ xs : Array (Int × Int), Sl W (.slice p len cap) xs ∧ xs.size = len ∧ xs.size ≤ maxLen := by
  rcases open_slice_pairs Tryd.underlying97 Tryd.underlying99 cells_item rfl rfl cells_int cells_int h with ⟨hcs, _⟩ | ⟨a, l, c, m, n, V0, V1, D0, D1, P0, P1, hcs, _, hl, hm, hmeq, _, hall⟩
  · simp only [List.cons.injEq, and_true, Value.slice.injEq] at hcs
    obtain ⟨rfl, rfl, rfl⟩ := hcs
    exact ⟨#[], Sl.nil W, rfl, Nat.zero_le _⟩
  · simp only [List.cons.injEq, and_true, Value.slice.injEq] at hcs
    obtain ⟨rfl, rfl, rfl⟩ := hcs
    simp only [if_true] at hmeq
    subst hmeq
    have key : ∀ i, ∃ q : Int × Int, i < m → V0 i = .int .i64 q.1 ∧ V1 i = .int .i64 q.2 := fun i => by
      by_cases hi : i < m
      · obtain ⟨_, _, t0, t1⟩ := hall i hi
        obtain ⟨k0, e0, _⟩ := DataW.trod_int Tryd.underlying3 t0
        obtain ⟨k1, e1, _⟩ := DataW.trod_int Tryd.underlying3 t1
        simp only [List.cons.injEq, and_true] at e0 e1
        exact ⟨(k0, k1), fun _ => ⟨e0, e1⟩⟩
      · exact ⟨(0, 0), fun h => absurd h hi⟩
    obtain ⟨q, hq⟩ := Classical.axiomOfChoice key
    have hsz : ((Array.range len).map q).size = len := by simp
    have hget : ∀ i, i < len → ((Array.range len).map q)[i]! = q i := fun i hi => by rw [getElem!_pos _ i (by simpa using hi)]; simp
    refine ⟨(Array.range len).map q, ?_, hsz, by rw [hsz]; omega⟩
    by_cases h0 : len = 0
    · exact ⟨some a, m, by rw [hsz], by rw [hsz]; exact hl, Or.inl (by rw [hsz]; exact h0)⟩
    · obtain ⟨b, off, spot⟩ := a
      have hc := (hall 0 (by omega)).1
      have hspot : spot = none := by simpa [Addr.add] using World.cell?_spot hc
      subst hspot
      have hadd : ∀ j, (⟨b, off, none⟩ : Addr).add j = ⟨b, off + j, none⟩ := fun j => by unfold Addr.add; split <;> simp_all
      have hlt : b < W.heap.size := by
        rw [hadd] at hc
        by_cases hb : b < W.heap.size
        · exact hb
        · exfalso
          have : W.heap[b]? = none := Array.getElem?_eq_none (by omega)
          simp [World.cell?, this] at hc
      refine ⟨_, m, by rw [hsz], by rw [hsz]; exact hl, Or.inr ⟨b, off, rfl, hlt, fun i hi => ?_⟩⟩
      rw [hsz] at hi
      obtain ⟨t0, t1, _, _⟩ := hall i (by omega)
      rw [hadd] at t0 t1
      rw [← Nat.add_assoc] at t1
      rw [hget i hi, t0, t1, (hq i (by omega)).1, (hq i (by omega)).2]
      exact ⟨rfl, rfl⟩
end Go.Proofs.YtlaeaeciomkababDoor

/-
  A list of whole numbers that came in, read.
-/
namespace Go.Proofs.YtlaeaeciomkababDoor
open Go.RowKit Go.Sort Go.Proofs Go.Deep Go.ChangeShapes Go.WideShapes

theorem flat_nums (xs : List Int) (j : Nat) : (EZ.flat xs)[j]? = (xs[j]?).map fun n => .int .i64 n := by
  induction xs generalizing j with
  | nil => simp [El.flat]
  | cons a t ih =>
    have e : EZ.flat (a :: t) = .int .i64 a :: EZ.flat t := rfl
    rw [e]
    cases j with
    | zero => simp
    | succ j => simp [ih]
theorem open_nums {H : Type} {enc : TypeId × Value → H} {W : World} {fuel : Nat} {p : Option Addr} {len cap : Nat} {x : DataW H × List MemPlace}
    (h : DataW.trod enc Tryd.prog W 0 (fun _ => true) true fuel 22 [.slice p len cap] = some x) : ∃ xs : List Int, SlE EZ W (.slice p len cap) xs ∧ xs.length = len ∧ xs.length ≤ maxLen := by
  rcases open_ints Tryd.underlying22 Tryd.underlying3 cells_int h with ⟨hcs, _⟩ | ⟨a, l, c, zs, hcs, _, hl, hm, hz, _, hall, _⟩
  · simp only [List.cons.injEq, and_true, Value.slice.injEq] at hcs
    obtain ⟨rfl, rfl, rfl⟩ := hcs
    exact ⟨[], SlE.empty W none 0, rfl, Nat.zero_le _⟩
  · simp only [List.cons.injEq, and_true, Value.slice.injEq] at hcs
    obtain ⟨rfl, rfl, rfl⟩ := hcs
    simp only [if_true] at hz
    have hlen : (zs.take len).length = len := by rw [List.length_take]; omega
    by_cases h0 : len = 0
    · subst h0
      exact ⟨[], SlE.empty W _ cap, rfl, Nat.zero_le _⟩
    · obtain ⟨b, off, spot⟩ := a
      have hc := hall 0 (by omega)
      have hspot : spot = none := by simpa [Addr.add] using World.cell?_spot hc
      subst hspot
      have hadd : ∀ j, (⟨b, off, none⟩ : Addr).add j = ⟨b, off + j, none⟩ := fun j => by unfold Addr.add; split <;> simp_all
      have hlt : b < W.heap.size := by
        rw [hadd] at hc
        by_cases hb : b < W.heap.size
        · exact hb
        · exfalso
          have : W.heap[b]? = none := Array.getElem?_eq_none (by omega)
          simp [World.cell?, this] at hc
      refine ⟨zs.take len, SlE.of_rd ⟨hlt, fun j v hv => ?_⟩ hlen hl, hlen, by omega⟩
      rw [flat_nums] at hv
      have hj : j < len := by
        have := List.getElem?_eq_none_iff (l := zs.take len) (i := j)
        by_cases q : j < len
        · exact q
        · rw [this.2 (by omega)] at hv; simp at hv
      have := hall j (by omega)
      rw [hadd] at this
      rw [this]
      rw [List.getElem?_take_of_lt hj, List.getElem?_eq_getElem (by omega)] at hv
      rw [List.getD_eq_getElem?_getD, List.getElem?_eq_getElem (by omega)]
      simpa using hv
end Go.Proofs.YtlaeaeciomkababDoor

/-
  A list of lists of whole numbers that came in, read.
-/
namespace Go.Proofs.YtlaeaeciomkababDoor
open Go.RowKit Go.Sort Go.Proofs Go.Deep Go.ChangeShapes Go.WideShapes

theorem cells_nums : Tryd.prog.cellsOf 22 = 1 := by kernel_rfl
theorem bytes_num : Tryd.prog.bytesOf 3 = 8 := by kernel_rfl
theorem weights_mem_all {H : Type} {P : Program} {e : TypeId} : ∀ {ds : List (DataW H)} {d : DataW H}, d ∈ ds → ∀ n ∈ d.weights P e, n ∈ DataW.weightsAll P e ds
  | d0 :: ds, d, hd, n, hn => by
    simp only [DataW.weightsAll, List.mem_append]
    rcases List.mem_cons.1 hd with rfl | z
    · exact Or.inl hn
    · exact Or.inr (weights_mem_all z n hn)
theorem open_lists {H : Type} {enc : TypeId × Value → H} {W : World} {fuel : Nat} {p : Option Addr} {len cap : Nat} {x : DataW H × List MemPlace}
    (h : DataW.trod enc Tryd.prog W 0 (fun _ => true) true fuel 37 [.slice p len cap] = some x) (hz : (x.1.weights Tryd.prog 37).all (fun n => decide (n ≤ reachBytes)) = true) :
    ∃ ls : List (List Int), LLAt W (.slice p len cap) ls ∧ ls.length = len ∧ len ≤ maxLen ∧ ∀ l ∈ ls, l.length ≤ 140737488351232 := by
  rcases open_slice Tryd.underlying37 h with ⟨hcs, _⟩ | ⟨a, l, c, m, n, D, Pl, hcs, _, hl, hm, hmeq, hx, hall⟩
  · simp only [List.cons.injEq, and_true, Value.slice.injEq] at hcs
    obtain ⟨rfl, rfl, rfl⟩ := hcs
    exact ⟨[], LLAt.nil _ _ _, rfl, Nat.zero_le _, fun t ht => by cases ht⟩
  · simp only [List.cons.injEq, and_true, Value.slice.injEq] at hcs
    obtain ⟨rfl, rfl, rfl⟩ := hcs
    simp only [if_true] at hmeq
    subst hmeq
    rw [cells_nums] at hall
    have hw : ∀ i, i < len → ∀ k ∈ (D i).weights Tryd.prog 22, k ≤ reachBytes := fun i hi k hk => by
      have hmem : k ∈ x.1.weights Tryd.prog 37 := by
        rw [hx]
        simp only [DataW.weights, Tryd.underlying37]
        refine List.mem_cons_of_mem _ (List.mem_append_left _ ?_)
        exact weights_mem_all (List.mem_map_of_mem (f := D) (List.mem_range.2 hi)) k hk
      exact of_decide_eq_true (List.all_eq_true.1 hz k hmem)
    have key : ∀ i, ∃ q : Sv × List Int, i < len → W.cell? (a.add i) = some (.slice q.1.1 q.1.2.1 q.1.2.2) ∧ SlE EZ W (.slice q.1.1 q.1.2.1 q.1.2.2) q.2 ∧ q.2.length ≤ 140737488351232 := fun i => by
      by_cases hi : i < len
      · obtain ⟨cs', h1, h2⟩ := hall i (by omega)
        obtain ⟨_, hlen, hcell⟩ := World.cells?_some h1
        obtain ⟨v0, rfl⟩ : ∃ v, cs' = [v] := by
          match cs', hlen with
          | [v], _ => exact ⟨v, rfl⟩
        have hc := hcell 0 (by omega)
        rw [Nat.mul_one] at hc
        have hc' : W.cell? (a.add i) = some v0 := by
          have e : ((a.add i).add 0) = a.add i := by unfold Addr.add; split <;> simp_all
          rw [e] at hc
          simpa using hc
        rcases open_ints Tryd.underlying22 Tryd.underlying3 cells_int h2 with ⟨q, _⟩ | ⟨a', l', c', zs, q, _, hl', _, hzl, hD, _, _⟩
        · simp only [List.cons.injEq, and_true] at q
          subst q
          exact ⟨((none, 0, 0), []), fun _ => ⟨hc', SlE.empty _ _ _, Nat.zero_le _⟩⟩
        · simp only [List.cons.injEq, and_true] at q
          subst q
          obtain ⟨ys, s1, s2, _⟩ := open_nums h2
          refine ⟨((some a', l', c'), ys), fun _ => ⟨hc', s1, ?_⟩⟩
          simp only [if_true] at hzl
          have := hw i hi ((lits .i64 (zs.take l') : List (DataW H)).length * 8 + (lits .i64 (zs.drop l') : List (DataW H)).length * 8) (by
            rw [(Prod.mk.inj hD).1]
            simp only [DataW.weights, Tryd.underlying22, bytes_num]
            rw [Nat.add_mul]
            exact List.mem_cons_self)
          simp only [lits, List.length_map, List.length_take, List.length_drop, reachBytes] at this
          show ys.length ≤ _
          omega
      · exact ⟨((none, 0, 0), []), fun h => absurd h hi⟩
    obtain ⟨q, hq⟩ := Classical.axiomOfChoice key
    refine ⟨(List.range len).map fun i => (q i).2, ?_, by simp, by omega, fun t ht => ?_⟩
    · have hts : ((List.range len).map fun i => (q i).1).length = len := by simp
      refine ⟨(List.range len).map fun i => (q i).1, ?_, by simp, fun i s t hs ht => ?_⟩
      · rcases Nat.eq_zero_or_pos len with h0 | h0
        · subst h0; exact SlE.empty _ _ _
        · obtain ⟨b, off, spot⟩ := a
          have hc0 := (hq 0 h0).1
          have hspot : spot = none := by simpa [Addr.add] using World.cell?_spot hc0
          subst hspot
          have hadd : ∀ j, (⟨b, off, none⟩ : Addr).add j = ⟨b, off + j, none⟩ := fun j => by unfold Addr.add; split <;> simp_all
          have hlt : b < W.heap.size := by
            rw [hadd] at hc0
            by_cases hb : b < W.heap.size
            · exact hb
            · exfalso
              have : W.heap[b]? = none := Array.getElem?_eq_none (by omega)
              simp [World.cell?, this] at hc0
          refine SlE.of_rd ⟨hlt, fun j v hv => ?_⟩ hts hl
          have hj : j < len := by have := (List.getElem?_eq_some_iff.1 hv).1; rw [El.flat_len, hts] at this; simpa [EV] using this
          have hv2 : (EV.flat ((List.range len).map fun i => (q i).1))[j * EV.K + 0]? = some v := by
            rw [show j * EV.K + 0 = j from by simp [EV]]; exact hv
          rw [El.flat_get EV _ j (by rw [hts]; exact hj) 0 (by decide)] at hv2
          simp only [List.getElem_map, List.getElem_range] at hv2
          have := (hq j hj).1
          rw [hadd] at this
          rw [this]
          exact hv2
      · have hi : i < len := by have := (List.getElem?_eq_some_iff.1 hs).1; simpa using this
        rw [List.getElem?_map, List.getElem?_range hi] at hs ht
        cases hs; cases ht
        exact (hq i hi).2.1
    · obtain ⟨i, hi, rfl⟩ := List.mem_map.1 ht
      exact (hq i (List.mem_range.1 hi)).2.2
#print axioms open_lists
end Go.Proofs.YtlaeaeciomkababDoor

/-
  errors.As at a target that is an Errno, plain.Told and the statements' own Error: which number an error tells.
-/
namespace Go.Proofs.YtlaeaeciomkababDoor
open Go.RowKit Go.Extern.Stop Go.Stop Go.Extern

/-! ### Closed facts on the entries for internal/reflectlite, at this program's numbers -/
theorem as_valueOfP (t : Addr) (w : World) : (ReflectliteValue.unpack (.iface 96 (.pointer (some t)))).run Tryd.prog w = .ok (.agg #[.pointer (some ⟨7, 96, none⟩), .pointer (some ⟨w.heap.size, 0, none⟩), .int .u64 150]) (w.alloc (.cells #[.pointer (some t)] 96)) := by kernel_rfl
theorem as_typeP (a : Addr) (w : World) : (ReflectliteValue.methodAny (ReflectliteValue.valueError "reflectlite.Value.Type" 0) (fun t _ _ _ => ReflectliteType.toType t) #[.agg #[.pointer (some ⟨7, 96, none⟩), .pointer (some a), .int .u64 150]]).run Tryd.prog w = .ok (.iface 155 (.agg #[.pointer (some ⟨7, 96, none⟩)])) w := by kernel_rfl
theorem as_methodKind (h : Value) (w : World) : (Go.method 319 155 (.agg #[h]) "Kind").run Tryd.prog w = .ok (131, h) w := by kernel_rfl
theorem as_kindP (w : World) : ((ReflectliteType.abiMethod fun t => (fun a : Nat => Value.int IntKind.u8 (a : Int)) <$> Rtype.kind t) #[.pointer (some ⟨7, 96, none⟩)]).run Tryd.prog w = .ok (.int .u8 22) w := by kernel_rfl
theorem as_kindE (w : World) : ((ReflectliteType.abiMethod fun t => (fun a : Nat => Value.int IntKind.u8 (a : Int)) <$> Rtype.kind t) #[.pointer (some ⟨7, 48, none⟩)]).run Tryd.prog w = .ok (.int .u8 2) w := by kernel_rfl
theorem as_rlm (z : Sem Value) (f : TypeId → Addr → Nat → Nat → Sem Value) (v : Value) :
    ReflectliteValue.method z f #[v] = (do match ← ReflectliteValue.parts v with | none => z | some (t, a, fl) => f t a fl (fl % 32)) := rfl
theorem as_partsP (a : Addr) (w : World) : (ReflectliteValue.parts (.agg #[.pointer (some ⟨7, 96, none⟩), .pointer (some a), .int .u64 150])).run Tryd.prog w = .ok (some (96, a, 150)) w := by kernel_rfl
theorem as_isNilP (a p : Addr) (W : World) (ha : W.cell? a = some (.pointer (some p))) :
    (ReflectliteValue.method (ReflectliteValue.valueError "reflectlite.Value.IsNil" 0) ReflectliteValue.isNil #[.agg #[.pointer (some ⟨7, 96, none⟩), .pointer (some a), .int .u64 150]]).run Tryd.prog W = .ok (.bool false) W := by
  rw [as_rlm]
  simp only [Sem.run_bind, as_partsP, Result.andThen]
  simp [ReflectliteValue.isNil, loadVar, isAgg, underlying, Tryd.underlying96, ha, Result.andThen]
theorem as_methodElem (h : Value) (w : World) : (Go.method 319 155 (.agg #[h]) "Elem").run Tryd.prog w = .ok (144, .agg #[h]) w := by kernel_rfl
theorem as_methodImplements (h : Value) (w : World) : (Go.method 319 155 (.agg #[h]) "Implements").run Tryd.prog w = .ok (145, .agg #[h]) w := by kernel_rfl
theorem as_methodAssignableTo (h : Value) (w : World) : (Go.method 319 155 (.agg #[h]) "AssignableTo").run Tryd.prog w = .ok (142, .agg #[h]) w := by kernel_rfl
theorem as_elemT (w : World) : (ReflectliteType.method ReflectliteType.elem #[.agg #[.pointer (some ⟨7, 96, none⟩)]]).run Tryd.prog w = .ok (.iface 155 (.agg #[.pointer (some ⟨7, 48, none⟩)])) w := by kernel_rfl
theorem as_implements (w : World) : (ReflectliteType.relation "Implements" ReflectliteType.implements_ #[.agg #[.pointer (some ⟨7, 48, none⟩)], .iface 155 (.agg #[.pointer (some ⟨7, 24, none⟩)])]).run Tryd.prog w = .ok (.bool true) w := by kernel_rfl
theorem as_typeOf (n : Int) (w : World) : (ReflectliteType.typeOf #[.iface 48 (.int .i64 n)]).run Tryd.prog w = .ok (.iface 155 (.agg #[.pointer (some ⟨7, 48, none⟩)])) w := by kernel_rfl
theorem as_assignable (w : World) : (ReflectliteType.relation "AssignableTo" ReflectliteType.assignableTo #[.agg #[.pointer (some ⟨7, 48, none⟩)], .iface 155 (.agg #[.pointer (some ⟨7, 48, none⟩)])]).run Tryd.prog w = .ok (.bool true) w := by kernel_rfl
theorem as_valueOfE (n : Int) (w : World) : (ReflectliteValue.unpack (.iface 48 (.int .i64 n))).run Tryd.prog w = .ok (.agg #[.pointer (some ⟨7, 48, none⟩), .pointer (some ⟨w.heap.size, 0, none⟩), .int .u64 130]) (w.alloc (.cells #[.int .i64 n] 48)) := by kernel_rfl
theorem as_elemOf (w : World) : (Rtype.elem? 96).run Tryd.prog w = .ok (some 48) w := by kernel_rfl
theorem as_mk (p : Addr) (w : World) : (ReflectliteValue.mk 48 p ReflectliteValue.flagAddr).run Tryd.prog w = .ok (.agg #[.pointer (some ⟨7, 48, none⟩), .pointer (some p), .int .u64 386]) w := by kernel_rfl
theorem as_elemV (a p : Addr) (W : World) (ha : W.cell? a = some (.pointer (some p))) :
    (ReflectliteValue.method (ReflectliteValue.valueError "reflectlite.Value.Elem" 0) ReflectliteValue.elem #[.agg #[.pointer (some ⟨7, 96, none⟩), .pointer (some a), .int .u64 150]]).run Tryd.prog W = .ok (.agg #[.pointer (some ⟨7, 48, none⟩), .pointer (some p), .int .u64 386]) W := by
  rw [as_rlm]
  simp only [Sem.run_bind, as_partsP, Result.andThen]
  simp [ReflectliteValue.elem, loadVar, isAgg, underlying, Tryd.underlying96, ha, Result.andThen, as_elemOf, as_mk]
theorem as_partsA (a : Addr) (w : World) : (ReflectliteValue.parts (.agg #[.pointer (some ⟨7, 48, none⟩), .pointer (some a), .int .u64 386])).run Tryd.prog w = .ok (some (48, a, 386)) w := by kernel_rfl
theorem as_partsB (a : Addr) (w : World) : (ReflectliteValue.parts (.agg #[.pointer (some ⟨7, 48, none⟩), .pointer (some a), .int .u64 130])).run Tryd.prog w = .ok (some (48, a, 130)) w := by kernel_rfl
theorem as_direct (w : World) : (Rtype.directlyAssignable 48 48).run Tryd.prog w = .ok true w := by kernel_rfl
theorem as_m3 {M : Array Value → Sort _} (v x : Value) (h1 : (v x : Value) → M #[v, x]) (h2 : (y : Array Value) → M y) : ReflectliteValue.set.match_3 M #[v, x] h1 h2 = h1 v x := rfl
theorem as_set (ta b : Addr) (n : Int) (old : Value) (W : World) (hb : W.cell? b = some (.int .i64 n)) (ht : W.cell? ta = some old) (hf : W.frozen? ta = false) :
    (ReflectliteValue.set #[.agg #[.pointer (some ⟨7, 48, none⟩), .pointer (some ta), .int .u64 386], .agg #[.pointer (some ⟨7, 48, none⟩), .pointer (some b), .int .u64 130]]).run Tryd.prog W = .ok (.tuple #[]) (W.setCell ta (.int .i64 n)) := by
  delta ReflectliteValue.set
  rw [as_m3]
  simp only [Sem.run_bind, as_partsA, as_partsB, Result.andThen]
  simp [ReflectliteValue.flagAddr, loadVar, isAgg, underlying, Tryd.underlying48, hb, Result.andThen, as_direct, storeVar, Value.cells, storeCells, Addr.add]
  rw [run_store Tryd.prog W ta _ _ (by rfl)]
  simp [ht, hf]

set_option maxHeartbeats 4000000 in
theorem as_hit (n : Int) (t : Addr) (old : Value) (w : World) (hg : w.cell? ⟨2, 0, none⟩ = some (.iface 155 (.agg #[.pointer (some ⟨7, 24, none⟩)]))) (ht0 : w.cell? t = some old) (hf0 : w.frozen? t = false) :
    Calls Tryd.prog 57 #[.iface 48 (.int .i64 n), .iface 96 (.pointer (some t))] w fun ev w' => ev = .returned (.bool true) ∧ w' = ((((w.alloc (.cells #[.pointer (some t)] 96)).alloc (.cells #[.pointer (some ⟨7, 96, none⟩), .pointer (some ⟨w.heap.size, 0, none⟩), .int .u64 150] 129)).alloc (.cells #[.pointer (some ⟨7, 96, none⟩), .pointer (some ⟨w.heap.size, 0, none⟩), .int .u64 150] 129)).alloc (.cells #[.int .i64 n] 48)).setCell t (.int .i64 n) := by
  have h6 := @run_callFunc_extern Tryd.prog 77 _ (fun args => ReflectliteValue.unpack (args.getD 0 (.tuple #[]))) Tryd.func77 (by kernel_rfl) (by kernel_rfl) (by kernel_rfl) (by kernel_rfl)
  have h7 := @run_callFunc_extern Tryd.prog 78 _ (ReflectliteValue.methodAny (ReflectliteValue.valueError "reflectlite.Value.Type" 0) (fun t _ _ _ => ReflectliteType.toType t)) Tryd.func78 (by kernel_rfl) (by kernel_rfl) (by kernel_rfl) (by kernel_rfl)
  have h8 := @run_callFunc_extern Tryd.prog 79 _ (ReflectliteValue.method (ReflectliteValue.valueError "reflectlite.Value.IsNil" 0) ReflectliteValue.isNil) Tryd.func79 (by kernel_rfl) (by kernel_rfl) (by kernel_rfl) (by kernel_rfl)
  have h27 := @run_callFunc_extern Tryd.prog 131 _ (ReflectliteType.abiMethod fun t => do pure (.int .u8 (← Rtype.kind t))) Tryd.func131 (by kernel_rfl) (by kernel_rfl) (by kernel_rfl) (by kernel_rfl)
  have h37 := @run_callFunc_extern Tryd.prog 144 _ (ReflectliteType.method ReflectliteType.elem) Tryd.func144 (by kernel_rfl) (by kernel_rfl) (by kernel_rfl) (by kernel_rfl)
  have h38 := @run_callFunc_extern Tryd.prog 145 _ (ReflectliteType.relation "Implements" ReflectliteType.implements_) Tryd.func145 (by kernel_rfl) (by kernel_rfl) (by kernel_rfl) (by kernel_rfl)
  have h10 := @run_callFunc_extern Tryd.prog 93 _ ReflectliteType.typeOf Tryd.func93 (by kernel_rfl) (by kernel_rfl) (by kernel_rfl) (by kernel_rfl)
  have h35 := @run_callFunc_extern Tryd.prog 142 _ (ReflectliteType.relation "AssignableTo" ReflectliteType.assignableTo) Tryd.func142 (by kernel_rfl) (by kernel_rfl) (by kernel_rfl) (by kernel_rfl)
  have h11 := @run_callFunc_extern Tryd.prog 94 _ (ReflectliteValue.method (ReflectliteValue.valueError "reflectlite.Value.Elem" 0) ReflectliteValue.elem) Tryd.func94 (by kernel_rfl) (by kernel_rfl) (by kernel_rfl) (by kernel_rfl)
  have h12 := @run_callFunc_extern Tryd.prog 95 _ ReflectliteValue.set Tryd.func95 (by kernel_rfl) (by kernel_rfl) (by kernel_rfl) (by kernel_rfl)
  have tO := as_typeOf
  have mA := as_methodAssignableTo
  have a25 := as_assignable
  have v25 := as_valueOfE
  have f6 := as_valueOfP
  have f7 := as_typeP
  have mK := as_methodKind
  have mE := as_methodElem
  have mI := as_methodImplements
  have k27 := as_kindP
  have k25 := as_kindE
  have e27 := as_elemT
  have i25 := as_implements
  have n8 := as_isNilP ⟨w.heap.size, 0, none⟩ t ((w.alloc (.cells #[.pointer (some t)] 96)).alloc (.cells #[.pointer (some ⟨7, 96, none⟩), .pointer (some ⟨w.heap.size, 0, none⟩), .int .u64 150] 129)) (by simp)
  have hlt : 2 < w.heap.size := by
    rcases Nat.lt_or_ge 2 w.heap.size with h | h
    · exact h
    · simp [World.cell?, Array.getElem?_eq_none h] at hg
  have hg2 : ((w.alloc (.cells #[.pointer (some t)] 96)).alloc (.cells #[.pointer (some ⟨7, 96, none⟩), .pointer (some ⟨w.heap.size, 0, none⟩), .int .u64 150] 129)).cell? ⟨2, 0, none⟩ = some (.iface 155 (.agg #[.pointer (some ⟨7, 24, none⟩)])) := by
    rw [World.cell?_alloc_lt _ _ ⟨2, 0, none⟩ (by simp <;> omega), World.cell?_alloc_lt _ _ ⟨2, 0, none⟩ hlt]; exact hg
  have htl : t.block < w.heap.size := by
    rcases Nat.lt_or_ge t.block w.heap.size with h | h
    · exact h
    · simp [World.cell?, Array.getElem?_eq_none h] at ht0
  have el := as_elemV ⟨w.heap.size, 0, none⟩ t (((w.alloc (.cells #[.pointer (some t)] 96)).alloc (.cells #[.pointer (some ⟨7, 96, none⟩), .pointer (some ⟨w.heap.size, 0, none⟩), .int .u64 150] 129)).alloc (.cells #[.pointer (some ⟨7, 96, none⟩), .pointer (some ⟨w.heap.size, 0, none⟩), .int .u64 150] 129)) (by rw [World.cell?_alloc_lt _ _ ⟨w.heap.size, 0, none⟩ (by simp; omega)]; simp)
  have st := as_set t ⟨w.heap.size + 1 + 1 + 1, 0, none⟩ n old ((((w.alloc (.cells #[.pointer (some t)] 96)).alloc (.cells #[.pointer (some ⟨7, 96, none⟩), .pointer (some ⟨w.heap.size, 0, none⟩), .int .u64 150] 129)).alloc (.cells #[.pointer (some ⟨7, 96, none⟩), .pointer (some ⟨w.heap.size, 0, none⟩), .int .u64 150] 129)).alloc (.cells #[.int .i64 n] 48))
    (by rw [World.cell?_alloc_at _ _ _ _ (by simp)]; rfl)
    (by rw [World.cell?_alloc_lt _ _ t (by simp; omega), World.cell?_alloc_lt _ _ t (by simp; omega), World.cell?_alloc_lt _ _ t (by simp; omega), World.cell?_alloc_lt _ _ t htl]; exact ht0)
    (by rw [World.frozen?_alloc_old _ _ t (by simp; omega), World.frozen?_alloc_old _ _ t (by simp; omega), World.frozen?_alloc_old _ _ t (by simp; omega), World.frozen?_alloc_old _ _ t (Nat.ne_of_lt htl)]; exact hf0)
  go_enter Tryd.func57, Tryd.ntmps57
  go_wp2
  refine wp_loop_rounds 1 ?_
  rw [rounds_succ]
  go_wp2
  go_ret
  exact ⟨rfl, rfl⟩
end Go.Proofs.YtlaeaeciomkababDoor

/-
  plain.Told and the statements' own Error: which number an error tells.
-/
namespace Go.Proofs.YtlaeaeciomkababDoor
open Go.RowKit Go.Sort Go.Proofs

/-- The one package-level variable that errors.As reads holds the handle of the type error. -/
def Glob (w : World) : Prop := 2 < w.heap.size ∧ w.cell? ⟨2, 0, none⟩ = some (.iface 155 (.agg #[.pointer (some ⟨7, 24, none⟩)]))
theorem Glob.below {w w' : World} (h : Glob w) (hb : Below w.heap.size w w') : Glob w' :=
  ⟨Nat.lt_of_lt_of_le h.1 hb.size, (hb.cell (p := ⟨2, 0, none⟩) h.1).trans h.2⟩

theorem told_nil (w : World) : Calls Tryd.prog 32 #[.nilIface] w fun e w' => e = .returned (.int .i64 0) ∧ Below w.heap.size w w' := by
  go_enter Tryd.func32, Tryd.ntmps32
  go_wp2
  go_ret
  exact ⟨rfl, Below.refl _ _⟩
set_option maxHeartbeats 2000000 in
theorem told_hit (n : Int) (w : World) (hg : Glob w) : Calls Tryd.prog 32 #[.iface 48 (.int .i64 n)] w fun e w' => e = .returned (.int .i64 n) ∧ Below w.heap.size w w' := by
  have hg1 : (w.alloc (.cells #[.int .i64 0] 48)).cell? ⟨2, 0, none⟩ = some (.iface 155 (.agg #[.pointer (some ⟨7, 24, none⟩)])) := by
    rw [World.cell?_alloc_lt _ _ ⟨2, 0, none⟩ hg.1]; exact hg.2
  have c := as_hit n ⟨w.heap.size, 0, none⟩ (.int .i64 0) (w.alloc (.cells #[.int .i64 0] 48)) hg1 (by simp) (by simp)
  have hz : w.heap.size < (w.alloc (.cells #[.int .i64 0] 48)).heap.size := by simp
  have C : Hid (Calls Tryd.prog 57 #[.iface 48 (.int .i64 n), .iface 96 (.pointer (some ⟨w.heap.size, 0, none⟩))] (w.alloc (.cells #[.int .i64 0] 48)) fun ev w' => ev = .returned (.bool true) ∧ w'.cell? ⟨w.heap.size, 0, none⟩ = some (.int .i64 n) ∧ Below w.heap.size w w') :=
    c.mono fun ev w' ⟨h1, h2⟩ => by
      refine ⟨h1, ?_, ?_⟩
      · rw [h2]
        refine World.cell?_setCell_same' _ _ _ ?_
        rw [World.cell?_alloc_lt _ _ ⟨w.heap.size, 0, none⟩ (by simp; omega), World.cell?_alloc_lt _ _ ⟨w.heap.size, 0, none⟩ (by simp; omega), World.cell?_alloc_lt _ _ ⟨w.heap.size, 0, none⟩ (by simp; omega), World.cell?_alloc_lt _ _ ⟨w.heap.size, 0, none⟩ hz]
        simp
      · rw [h2]
        exact ((((((Below.refl w.heap.size w).alloc (Nat.le_refl _) _).alloc (by simp) _).alloc (by simp; omega) _).alloc (by simp; omega) _).alloc (by simp; omega) _).setCell (p := ⟨w.heap.size, 0, none⟩) (Nat.le_refl _) _
  clear c hg1 hg hz
  go_enter Tryd.func32, Tryd.ntmps32
  go_wp2_with fail
  refine C.out.mono ?_
  rintro e w1 ⟨rfl, hc, hb⟩
  go_wp2
  go_ret
  exact ⟨rfl, hb⟩

theorem told_any (k : Nat) (w : World) (hg : Glob w) : Calls Tryd.prog 32 #[errV k] w fun e w' => e = .returned (.int .i64 k) ∧ Below w.heap.size w w' := by
  unfold errV
  by_cases h : k = 0
  · rw [if_pos h, h]; exact told_nil w
  · rw [if_neg h]; exact told_hit k w hg
theorem error_any (k m : Nat) (w : World) (hg : Glob w) : Calls Tryd.prog 17 #[errV k, .int .i64 m] w fun e w' => e = .returned (.bool ((k : Int) == (m : Int))) ∧ Below w.heap.size w w' := by
  have c := told_any k w hg
  generalize errV k = v at c ⊢
  go_enter Tryd.func17, Tryd.ntmps17
  go_wp2_with fail
  refine c.mono ?_
  rintro e w1 ⟨rfl, hb⟩
  go_wp2
  go_ret
  exact ⟨rfl, hb⟩
end Go.Proofs.YtlaeaeciomkababDoor

/-
  The law RunsSays, walked: the runs of any numbers, and any runs merged. (Written by wip/gen/rusays.py.)
-/
namespace Go.Proofs.YtlaeaeciomkababDoor
open Go.RowKit Go.Sort Go.Proofs

theorem DMgd.same {ls : List (List Int)} {a b : List Int} (ha : DMgd ls a) (hb : DMgd ls b) : a = b := by
  unfold DMgd at ha hb
  by_cases h0 : wrongG ls = 0
  · rw [if_pos h0] at ha hb
    exact perm_sorted_eq _ _ ha.up hb.up (ha.perm.trans hb.perm.symm)
  · rw [if_neg h0] at ha hb
    rw [ha, hb]
theorem DMgd.len {ls : List (List Int)} {a : List Int} (ha : DMgd ls a) : a.length ≤ 60 := by
  unfold DMgd at ha
  by_cases h0 : wrongG ls = 0
  · rw [if_pos h0] at ha
    rw [ha.perm.length_eq]
    exact (wrongLL_zero (wrongG_zero h0).1).1
  · rw [if_neg h0] at ha
    rw [ha]
    exact Nat.zero_le _
theorem merge_any {w : World} {v : Value} {ls : List (List Int)} (h : LLAt w v ls) (hbig : ls.length ≤ 9223372036854775807) (hl : ∀ l ∈ ls, l.length ≤ 140737488351232) :
    Calls Tryd.prog 20 #[v] w fun e w' => ∃ u ys, e = .returned (.tuple #[u, errV (wrongG ls)]) ∧ SlE EZ w' u ys ∧ DMgd ls ys ∧ Below w.heap.size w w' := by
  obtain ⟨p, cap, rfl⟩ := h.form
  by_cases h0 : wrongG ls = 0
  · refine (merge_ok h hbig h0).mono ?_
    rintro e w' ⟨u, out, rfl, ho, _, hp, hs, hb⟩
    refine ⟨u, out, by rw [errV_nil h0], ho.sl, ?_, hb⟩
    unfold DMgd
    rw [if_pos h0]
    exact ⟨hp, hs⟩
  · refine (merge_bad h hbig (fun i l hi hf => ?_) h0).mono ?_
    · have := hl l (List.mem_of_getElem? hi)
      omega
    rintro e w' ⟨rfl, hb⟩
    refine ⟨_, [], rfl, SlE.empty _ _ _, ?_, hb⟩
    unfold DMgd
    rw [if_neg h0]
theorem err_same (k : Nat) (w : World) (hG : Glob w) : Calls Tryd.prog 17 #[errV k, .int .i64 k] w fun e w' => e = .returned (.bool true) ∧ Below w.heap.size w w' := by
  have := error_any k k w hG
  simpa using this
theorem rows_small {room : Nat} (hr : 1 ≤ room) (hr8 : room ≤ 8) {l : List Int} (h60 : l.length ≤ 60) : (rowsR (outs room l)).length ≤ 9223372036854775807 ∧ ∀ r ∈ rowsR (outs room l), r.length ≤ 9223372036854775807 := by
  have hFl := rows_flat hr l
  constructor
  · have hlong := rows_long hr l
    have : topR (outs room l) ≤ topR (outs room l) * room := Nat.le_mul_of_pos_right _ (by omega)
    rw [rowsR_len]
    omega
  · intro r hm
    obtain ⟨i, hi⟩ := List.mem_iff_getElem?.1 hm
    have a := flat_take (rowsR (outs room l)) hi
    have b := flat_le (rowsR (outs room l)) (i + 1)
    have := hFl.length_eq
    omega
set_option maxHeartbeats 16000000 in
set_option maxRecDepth 20000 in
theorem runsSays_ok {w : World} {p pg : Option Addr} {n cap ng cg : Nat} {l : List Int} {ls : List (List Int)} {room : Nat} (h : SlE EZ w (.slice p n cap) l) (hg : LLAt w (.slice pg ng cg) ls) (hbig : l.length ≤ 9223372036854775807) (hbig2 : ls.length ≤ 9223372036854775807) (hl : ∀ l ∈ ls, l.length ≤ 140737488351232) (hG : Glob w) (h0 : wrongM l room = 0) :
    Calls Tryd.prog 5 #[.slice p n cap, .int .i64 room, .slice pg ng cg] w fun e w' => e = .returned (.bool true) ∧ Below w.heap.size w w' := by
  have C0 := numbers_any _ l w h hbig
  have HX := hidp h
  have HLL := hidp hg
  have HGL := hidp hG
  have HBG := hidp hbig2
  have HLS := hidp hl
  obtain ⟨hN, hr1, hr8⟩ := wrongM_zero h0
  have h60 := (wrongN_zero hN).1
  have hS := rows_small (l := l) (by omega : 1 ≤ room) (by omega) h60
  have C1 := refRuns_any h h60 (by omega : 1 ≤ room)
  have C2 : ∀ W, Below w.heap.size w W → _ := fun W hb => make_ok (h.below hb) h0
  rw [hN] at C0
  obtain ⟨rw, hrw⟩ : ∃ rw, rowsR (outs room l) = rw := ⟨_, rfl⟩
  simp only [hrw] at C1 C2 hS
  have E0 : ∀ W, Glob W → Calls Tryd.prog 17 #[.nilIface, .int .i64 0] W fun e w' => e = .returned (.bool true) ∧ Below W.heap.size W w' := fun W hg => err_same 0 W hg
  have hd1 : ¬ (room : Int) < 1 := by omega
  have hd2 : ¬ (8 : Int) < (room : Int) := by omega
  have HC0 := hidp C0
  have HC1 := hidp C1
  have HC2 := hidp C2
  have HE0 := hidp E0
  have HS := hidp hS
  clear h hg hbig hbig2 hl hG h0 hN hr1 hr8 h60 hS C0 C1 C2 E0 hrw
  go_enter Tryd.func5, Tryd.ntmps5
  go_wp2_with fail
  refine HC0.out.mono ?_
  rintro e w0 ⟨rfl, hw⟩
  subst hw
  go_wp2_with fail
  refine HC1.out.mono ?_
  rintro e w1 ⟨u1, ss1, f1, rfl, hr, hb1⟩
  have HR1 := hidp hr.ll
  have HB1 := hidp hb1
  clear hr hb1 HC0 HC1
  go_wp2_with fail
  refine (HC2.out _ HB1.out).mono ?_
  rintro e w2 ⟨u2, ss2, f2, rfl, hr, -, -, hb2⟩
  have hb12 := HB1.out.trans (hb2.mono HB1.out.size)
  have HG2 := hidp (HGL.out.below hb12)
  have HR1' := hidp (HR1.out.below hb2)
  have HR2 := hidp hr.ll
  have HB2 := hidp hb12
  clear hr hb2 hb12 HC2 HR1 HB1
  go_wp2_with (first | (go_at_call 17; refine (HE0.out _ HG2.out).mono ?_; rintro e w3 ⟨rfl, hb3⟩; have HB3 := hidp hb3; clear hb3) | (go_at_call 18; refine (sameR_any (HR2.out.below HB3.out) (HR1'.out.below HB3.out) HS.out.1 HS.out.2).mono ?_; rintro e w4 ⟨rfl, q4, rfl⟩; simp only [decide_true]))
  have hb4 := below_drewN (HB2.out.trans (HB3.out.mono HB2.out.size)) q4
  have HLL4 := hidp (HLL.out.below hb4)
  have HG4 := hidp (HGL.out.below hb4)
  have HB4 := hidp hb4
  clear hb4 HB3 HG2 HLL HE0 HB2 HX
  generalize w3.drewN q4 = w4 at HLL4 HG4 HB4 ⊢
  have C5 := refMerge_any _ ls w4 HLL4.out HBG.out (fun i l hi _ => Nat.le_trans (HLS.out l (List.mem_of_getElem? hi)) (by omega))
  have C6 := fun W (hb : Below w4.heap.size w4 W) => merge_any (HLL4.out.below hb) HBG.out HLS.out
  obtain ⟨zg, hzg⟩ : ∃ zg, wrongG ls = zg := ⟨_, rfl⟩
  have E1 := err_same zg
  obtain ⟨ep, hep⟩ : ∃ ep, errV zg = ep := ⟨_, rfl⟩
  rw [hzg] at C5
  simp only [hzg, hep] at C6
  rw [hep] at E1
  have HC5 := hidp C5
  have HC6 := hidp C6
  have HE1 := hidp E1
  clear C5 C6 E1 hzg hep HLL4
  go_wp2_with fail
  refine HC5.out.mono ?_
  rintro e w5 ⟨u5, ys5, rfl, hs5, hd5, hb5⟩
  have HS5 := hidp hs5
  have HD5 := hidp hd5
  have HB5 := hidp hb5
  clear hs5 hd5 hb5 HC5
  go_wp2_with fail
  refine (HC6.out _ HB5.out).mono ?_
  rintro e w6 ⟨u6, ys6, rfl, hs6, hd6, hb6⟩
  obtain rfl := hd6.same HD5.out
  have hb46 := HB5.out.trans (hb6.mono HB5.out.size)
  have HS5' := hidp (HS5.out.below hb6)
  have HS6 := hidp hs6
  have HB6 := hidp (HB4.out.trans (hb46.mono HB4.out.size))
  have HG6 := hidp (HG4.out.below hb46)
  have hlen : ys6.length ≤ 9223372036854775807 := Nat.le_trans hd6.len (by omega)
  have HLEN := hidp hlen
  clear hs6 hd6 hb6 hb46 HS5 HC6 HB4 HG4 HD5 HB5 hlen
  go_wp2_with (first | (go_at_call 17; refine (HE1.out _ HG6.out).mono ?_; rintro e w7 ⟨rfl, hb7⟩; have HB7 := hidp hb7; clear hb7) | (go_at_call 7; refine (sameI_any (HS6.out.below HB7.out) (HS5'.out.below HB7.out) HLEN.out).mono ?_; rintro e w8 ⟨rfl, q8, rfl⟩; simp only [decide_true]))
  go_ret
  exact ⟨by simp, below_drewN (HB6.out.trans (HB7.out.mono HB6.out.size)) q8⟩
set_option maxHeartbeats 16000000 in
set_option maxRecDepth 20000 in
theorem runsSays_num {w : World} {p pg : Option Addr} {n cap ng cg : Nat} {l : List Int} {ls : List (List Int)} {room : Int} (h : SlE EZ w (.slice p n cap) l) (hg : LLAt w (.slice pg ng cg) ls) (hbig : l.length ≤ 9223372036854775807) (hbig2 : ls.length ≤ 9223372036854775807) (hl : ∀ l ∈ ls, l.length ≤ 140737488351232) (hG : Glob w) (hN : wrongN l ≠ 0) :
    Calls Tryd.prog 5 #[.slice p n cap, .int .i64 room, .slice pg ng cg] w fun e w' => e = .returned (.bool true) ∧ Below w.heap.size w w' := by
  have C0 := numbers_any _ l w h hbig
  have HX := hidp h
  have HLL := hidp hg
  have HGL := hidp hG
  have HBG := hidp hbig2
  have HLS := hidp hl
  obtain ⟨z, hz⟩ : ∃ z, wrongN l = z := ⟨_, rfl⟩
  have hM : wrongM l room = z := by unfold wrongM; rw [if_neg hN]; exact hz
  rw [hz] at C0 hN
  have hz1 : ((z : Int) == 0) = false := beq_eq_false_iff_ne.2 (by omega)
  have E0 := err_same z
  have C2 := fun W (hb : Below w.heap.size w W) => make_bad (room := room) (h.below hb) (by have := h.len.1; omega) (by rw [hM]; omega)
  simp only [hM] at C2
  obtain ⟨ev, hev⟩ : ∃ ev, errV z = ev := ⟨_, rfl⟩
  simp only [hev] at C2 E0
  have HC0 := hidp C0
  have HC2 := hidp C2
  have HE0 := hidp E0
  clear h hg hbig hbig2 hl hG hN C0 C2 E0 hz hev hM
  go_enter Tryd.func5, Tryd.ntmps5
  go_wp2_with fail
  refine HC0.out.mono ?_
  rintro e w0 ⟨rfl, hw⟩
  subst hw
  go_wp2_with fail
  refine (HC2.out _ (Below.refl _ _)).mono ?_
  rintro e w2 ⟨rfl, hb2⟩
  have HG2 := hidp (HGL.out.below hb2)
  have HB2 := hidp hb2
  clear hb2 HC2 HC0
  go_wp2_with (first | (go_at_call 17; refine (HE0.out _ HG2.out).mono ?_; rintro e w3 ⟨rfl, hb3⟩; have HB3 := hidp hb3; clear hb3) | (go_at_call 18; refine (sameR_any (LLAt.nil w3 none 0) (LLAt.nil w3 none 0) (by simp) (by simp)).mono ?_; rintro e w4 ⟨rfl, q4, rfl⟩; simp only [decide_true]))
  have hb4 := below_drewN (HB2.out.trans (HB3.out.mono HB2.out.size)) q4
  have HLL4 := hidp (HLL.out.below hb4)
  have HG4 := hidp (HGL.out.below hb4)
  have HB4 := hidp hb4
  clear hb4 HB3 HG2 HLL HE0 HB2 HX
  generalize w3.drewN q4 = w4 at HLL4 HG4 HB4 ⊢
  have C5 := refMerge_any _ ls w4 HLL4.out HBG.out (fun i l hi _ => Nat.le_trans (HLS.out l (List.mem_of_getElem? hi)) (by omega))
  have C6 := fun W (hb : Below w4.heap.size w4 W) => merge_any (HLL4.out.below hb) HBG.out HLS.out
  obtain ⟨zg, hzg⟩ : ∃ zg, wrongG ls = zg := ⟨_, rfl⟩
  have E1 := err_same zg
  obtain ⟨ep, hep⟩ : ∃ ep, errV zg = ep := ⟨_, rfl⟩
  rw [hzg] at C5
  simp only [hzg, hep] at C6
  rw [hep] at E1
  have HC5 := hidp C5
  have HC6 := hidp C6
  have HE1 := hidp E1
  clear C5 C6 E1 hzg hep HLL4
  go_wp2_with fail
  refine HC5.out.mono ?_
  rintro e w5 ⟨u5, ys5, rfl, hs5, hd5, hb5⟩
  have HS5 := hidp hs5
  have HD5 := hidp hd5
  have HB5 := hidp hb5
  clear hs5 hd5 hb5 HC5
  go_wp2_with fail
  refine (HC6.out _ HB5.out).mono ?_
  rintro e w6 ⟨u6, ys6, rfl, hs6, hd6, hb6⟩
  obtain rfl := hd6.same HD5.out
  have hb46 := HB5.out.trans (hb6.mono HB5.out.size)
  have HS5' := hidp (HS5.out.below hb6)
  have HS6 := hidp hs6
  have HB6 := hidp (HB4.out.trans (hb46.mono HB4.out.size))
  have HG6 := hidp (HG4.out.below hb46)
  have hlen : ys6.length ≤ 9223372036854775807 := Nat.le_trans hd6.len (by omega)
  have HLEN := hidp hlen
  clear hs6 hd6 hb6 hb46 HS5 HC6 HB4 HG4 HD5 HB5 hlen
  go_wp2_with (first | (go_at_call 17; refine (HE1.out _ HG6.out).mono ?_; rintro e w7 ⟨rfl, hb7⟩; have HB7 := hidp hb7; clear hb7) | (go_at_call 7; refine (sameI_any (HS6.out.below HB7.out) (HS5'.out.below HB7.out) HLEN.out).mono ?_; rintro e w8 ⟨rfl, q8, rfl⟩; simp only [decide_true]))
  go_ret
  exact ⟨by simp, below_drewN (HB6.out.trans (HB7.out.mono HB6.out.size)) q8⟩
set_option maxHeartbeats 16000000 in
set_option maxRecDepth 20000 in
theorem runsSays_lo {w : World} {p pg : Option Addr} {n cap ng cg : Nat} {l : List Int} {ls : List (List Int)} {room : Int} (h : SlE EZ w (.slice p n cap) l) (hg : LLAt w (.slice pg ng cg) ls) (hbig : l.length ≤ 9223372036854775807) (hbig2 : ls.length ≤ 9223372036854775807) (hl : ∀ l ∈ ls, l.length ≤ 140737488351232) (hG : Glob w) (hN : wrongN l = 0) (hd1 : room < 1) :
    Calls Tryd.prog 5 #[.slice p n cap, .int .i64 room, .slice pg ng cg] w fun e w' => e = .returned (.bool true) ∧ Below w.heap.size w w' := by
  have C0 := numbers_any _ l w h hbig
  have HX := hidp h
  have HLL := hidp hg
  have HGL := hidp hG
  have HBG := hidp hbig2
  have HLS := hidp hl
  have hM : wrongM l room = 1 := by unfold wrongM; rw [if_pos hN, if_pos (by omega)]
  obtain ⟨z, hz⟩ : ∃ z : Nat, 1 = z := ⟨_, rfl⟩
  rw [hN] at C0
  rw [hz] at hM
  have E0 : ∀ W, Glob W → Calls Tryd.prog 17 #[errV z, .int .i64 1] W fun e w' => e = .returned (.bool true) ∧ Below W.heap.size W w' := fun W hg => by
    rw [← hz]
    exact err_same 1 W hg
  have C2 := fun W (hb : Below w.heap.size w W) => make_bad (room := room) (h.below hb) (by have := h.len.1; omega) (by rw [hM]; omega)
  simp only [hM] at C2
  obtain ⟨ev, hev⟩ : ∃ ev, errV z = ev := ⟨_, rfl⟩
  simp only [hev] at C2 E0
  have HC0 := hidp C0
  have HC2 := hidp C2
  have HE0 := hidp E0
  clear h hg hbig hbig2 hl hG hN C0 C2 E0 hz hev hM
  go_enter Tryd.func5, Tryd.ntmps5
  go_wp2_with fail
  refine HC0.out.mono ?_
  rintro e w0 ⟨rfl, hw⟩
  subst hw
  go_wp2_with fail
  refine (HC2.out _ (Below.refl _ _)).mono ?_
  rintro e w2 ⟨rfl, hb2⟩
  have HG2 := hidp (HGL.out.below hb2)
  have HB2 := hidp hb2
  clear hb2 HC2 HC0
  go_wp2_with (first | (go_at_call 17; refine (HE0.out _ HG2.out).mono ?_; rintro e w3 ⟨rfl, hb3⟩; have HB3 := hidp hb3; clear hb3) | (go_at_call 18; refine (sameR_any (LLAt.nil w3 none 0) (LLAt.nil w3 none 0) (by simp) (by simp)).mono ?_; rintro e w4 ⟨rfl, q4, rfl⟩; simp only [decide_true]))
  have hb4 := below_drewN (HB2.out.trans (HB3.out.mono HB2.out.size)) q4
  have HLL4 := hidp (HLL.out.below hb4)
  have HG4 := hidp (HGL.out.below hb4)
  have HB4 := hidp hb4
  clear hb4 HB3 HG2 HLL HE0 HB2 HX
  generalize w3.drewN q4 = w4 at HLL4 HG4 HB4 ⊢
  have C5 := refMerge_any _ ls w4 HLL4.out HBG.out (fun i l hi _ => Nat.le_trans (HLS.out l (List.mem_of_getElem? hi)) (by omega))
  have C6 := fun W (hb : Below w4.heap.size w4 W) => merge_any (HLL4.out.below hb) HBG.out HLS.out
  obtain ⟨zg, hzg⟩ : ∃ zg, wrongG ls = zg := ⟨_, rfl⟩
  have E1 := err_same zg
  obtain ⟨ep, hep⟩ : ∃ ep, errV zg = ep := ⟨_, rfl⟩
  rw [hzg] at C5
  simp only [hzg, hep] at C6
  rw [hep] at E1
  have HC5 := hidp C5
  have HC6 := hidp C6
  have HE1 := hidp E1
  clear C5 C6 E1 hzg hep HLL4
  go_wp2_with fail
  refine HC5.out.mono ?_
  rintro e w5 ⟨u5, ys5, rfl, hs5, hd5, hb5⟩
  have HS5 := hidp hs5
  have HD5 := hidp hd5
  have HB5 := hidp hb5
  clear hs5 hd5 hb5 HC5
  go_wp2_with fail
  refine (HC6.out _ HB5.out).mono ?_
  rintro e w6 ⟨u6, ys6, rfl, hs6, hd6, hb6⟩
  obtain rfl := hd6.same HD5.out
  have hb46 := HB5.out.trans (hb6.mono HB5.out.size)
  have HS5' := hidp (HS5.out.below hb6)
  have HS6 := hidp hs6
  have HB6 := hidp (HB4.out.trans (hb46.mono HB4.out.size))
  have HG6 := hidp (HG4.out.below hb46)
  have hlen : ys6.length ≤ 9223372036854775807 := Nat.le_trans hd6.len (by omega)
  have HLEN := hidp hlen
  clear hs6 hd6 hb6 hb46 HS5 HC6 HB4 HG4 HD5 HB5 hlen
  go_wp2_with (first | (go_at_call 17; refine (HE1.out _ HG6.out).mono ?_; rintro e w7 ⟨rfl, hb7⟩; have HB7 := hidp hb7; clear hb7) | (go_at_call 7; refine (sameI_any (HS6.out.below HB7.out) (HS5'.out.below HB7.out) HLEN.out).mono ?_; rintro e w8 ⟨rfl, q8, rfl⟩; simp only [decide_true]))
  go_ret
  exact ⟨by simp, below_drewN (HB6.out.trans (HB7.out.mono HB6.out.size)) q8⟩
set_option maxHeartbeats 16000000 in
set_option maxRecDepth 20000 in
theorem runsSays_hi {w : World} {p pg : Option Addr} {n cap ng cg : Nat} {l : List Int} {ls : List (List Int)} {room : Int} (h : SlE EZ w (.slice p n cap) l) (hg : LLAt w (.slice pg ng cg) ls) (hbig : l.length ≤ 9223372036854775807) (hbig2 : ls.length ≤ 9223372036854775807) (hl : ∀ l ∈ ls, l.length ≤ 140737488351232) (hG : Glob w) (hN : wrongN l = 0) (hd1 : ¬ room < 1) (hd2 : 8 < room) :
    Calls Tryd.prog 5 #[.slice p n cap, .int .i64 room, .slice pg ng cg] w fun e w' => e = .returned (.bool true) ∧ Below w.heap.size w w' := by
  have C0 := numbers_any _ l w h hbig
  have HX := hidp h
  have HLL := hidp hg
  have HGL := hidp hG
  have HBG := hidp hbig2
  have HLS := hidp hl
  have hM : wrongM l room = 1 := by unfold wrongM; rw [if_pos hN, if_pos (by omega)]
  obtain ⟨z, hz⟩ : ∃ z : Nat, 1 = z := ⟨_, rfl⟩
  rw [hN] at C0
  rw [hz] at hM
  have E0 : ∀ W, Glob W → Calls Tryd.prog 17 #[errV z, .int .i64 1] W fun e w' => e = .returned (.bool true) ∧ Below W.heap.size W w' := fun W hg => by
    rw [← hz]
    exact err_same 1 W hg
  have C2 := fun W (hb : Below w.heap.size w W) => make_bad (room := room) (h.below hb) (by have := h.len.1; omega) (by rw [hM]; omega)
  simp only [hM] at C2
  obtain ⟨ev, hev⟩ : ∃ ev, errV z = ev := ⟨_, rfl⟩
  simp only [hev] at C2 E0
  have HC0 := hidp C0
  have HC2 := hidp C2
  have HE0 := hidp E0
  clear h hg hbig hbig2 hl hG hN C0 C2 E0 hz hev hM
  go_enter Tryd.func5, Tryd.ntmps5
  go_wp2_with fail
  refine HC0.out.mono ?_
  rintro e w0 ⟨rfl, hw⟩
  subst hw
  go_wp2_with fail
  refine (HC2.out _ (Below.refl _ _)).mono ?_
  rintro e w2 ⟨rfl, hb2⟩
  have HG2 := hidp (HGL.out.below hb2)
  have HB2 := hidp hb2
  clear hb2 HC2 HC0
  go_wp2_with (first | (go_at_call 17; refine (HE0.out _ HG2.out).mono ?_; rintro e w3 ⟨rfl, hb3⟩; have HB3 := hidp hb3; clear hb3) | (go_at_call 18; refine (sameR_any (LLAt.nil w3 none 0) (LLAt.nil w3 none 0) (by simp) (by simp)).mono ?_; rintro e w4 ⟨rfl, q4, rfl⟩; simp only [decide_true]))
  have hb4 := below_drewN (HB2.out.trans (HB3.out.mono HB2.out.size)) q4
  have HLL4 := hidp (HLL.out.below hb4)
  have HG4 := hidp (HGL.out.below hb4)
  have HB4 := hidp hb4
  clear hb4 HB3 HG2 HLL HE0 HB2 HX
  generalize w3.drewN q4 = w4 at HLL4 HG4 HB4 ⊢
  have C5 := refMerge_any _ ls w4 HLL4.out HBG.out (fun i l hi _ => Nat.le_trans (HLS.out l (List.mem_of_getElem? hi)) (by omega))
  have C6 := fun W (hb : Below w4.heap.size w4 W) => merge_any (HLL4.out.below hb) HBG.out HLS.out
  obtain ⟨zg, hzg⟩ : ∃ zg, wrongG ls = zg := ⟨_, rfl⟩
  have E1 := err_same zg
  obtain ⟨ep, hep⟩ : ∃ ep, errV zg = ep := ⟨_, rfl⟩
  rw [hzg] at C5
  simp only [hzg, hep] at C6
  rw [hep] at E1
  have HC5 := hidp C5
  have HC6 := hidp C6
  have HE1 := hidp E1
  clear C5 C6 E1 hzg hep HLL4
  go_wp2_with fail
  refine HC5.out.mono ?_
  rintro e w5 ⟨u5, ys5, rfl, hs5, hd5, hb5⟩
  have HS5 := hidp hs5
  have HD5 := hidp hd5
  have HB5 := hidp hb5
  clear hs5 hd5 hb5 HC5
  go_wp2_with fail
  refine (HC6.out _ HB5.out).mono ?_
  rintro e w6 ⟨u6, ys6, rfl, hs6, hd6, hb6⟩
  obtain rfl := hd6.same HD5.out
  have hb46 := HB5.out.trans (hb6.mono HB5.out.size)
  have HS5' := hidp (HS5.out.below hb6)
  have HS6 := hidp hs6
  have HB6 := hidp (HB4.out.trans (hb46.mono HB4.out.size))
  have HG6 := hidp (HG4.out.below hb46)
  have hlen : ys6.length ≤ 9223372036854775807 := Nat.le_trans hd6.len (by omega)
  have HLEN := hidp hlen
  clear hs6 hd6 hb6 hb46 HS5 HC6 HB4 HG4 HD5 HB5 hlen
  go_wp2_with (first | (go_at_call 17; refine (HE1.out _ HG6.out).mono ?_; rintro e w7 ⟨rfl, hb7⟩; have HB7 := hidp hb7; clear hb7) | (go_at_call 7; refine (sameI_any (HS6.out.below HB7.out) (HS5'.out.below HB7.out) HLEN.out).mono ?_; rintro e w8 ⟨rfl, q8, rfl⟩; simp only [decide_true]))
  go_ret
  exact ⟨by simp, below_drewN (HB6.out.trans (HB7.out.mono HB6.out.size)) q8⟩
theorem runsSays_any (v v2 : Value) (xs : List Int) (room : Int) (ls : List (List Int)) (w : World) (h : SlE EZ w v xs) (h2 : LLAt w v2 ls) (hbig : xs.length ≤ 9223372036854775807) (hbig2 : ls.length ≤ 9223372036854775807) (hl : ∀ l ∈ ls, l.length ≤ 140737488351232) (hG : Glob w) :
    Calls Tryd.prog 5 #[v, .int .i64 room, v2] w fun e w' => e = .returned (.bool true) ∧ Below w.heap.size w w' := by
  obtain ⟨p, cap, rfl, _⟩ := id h
  obtain ⟨p2, cap2, rfl⟩ := h2.form
  by_cases h0 : wrongN xs = 0
  · by_cases h1 : room < 1
    · exact runsSays_lo h h2 hbig hbig2 hl hG h0 h1
    · by_cases h8 : 8 < room
      · exact runsSays_hi h h2 hbig hbig2 hl hG h0 h1 h8
      · obtain ⟨r, rfl⟩ : ∃ r : Nat, room = r := ⟨room.toNat, by omega⟩
        exact runsSays_ok h h2 hbig hbig2 hl hG (by unfold wrongM; rw [if_pos h0, if_neg (by omega)])
  · exact runsSays_num h h2 hbig hbig2 hl hG h0
#print axioms runsSays_any
end Go.Proofs.YtlaeaeciomkababDoor
