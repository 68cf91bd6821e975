/-
  Queues of whole numbers in memory: their cells; NewQueue. (Written by wip/gen/queue.py.)
-/
import Derived.Test.YtcjfbenbdjlodabQRow
import Derived.Test.YtcjfbenbdjlodabHide
namespace Go.Proofs.Ytcjfbenbdjlodab
open Go.RowKit Go.Sort Go.Proofs

/-- The cells of a queue that is told by the function K. -/
def QB (w : World) (qb K : Nat) (v : Value) : Prop := w.heap[qb]? = some (.cells #[.func (.func K) #[] #[], v] 58 (0, 0))
section
variable {w w' : World} {qb K : Nat} {v : Value}
theorem QB.lt (h : QB w qb K v) : qb < w.heap.size := (Array.getElem?_eq_some_iff.1 h).1
theorem QB.cells (h : QB w qb K v) : w.cell? ⟨qb, 0, none⟩ = some (.func (.func K) #[] #[]) ∧ w.cell? ⟨qb, 1, none⟩ = some v := by
  unfold QB at h
  simp [World.cell?, h]
theorem QB.fr (h : QB w qb K v) (j : Nat) : w.frozen? ⟨qb, j, none⟩ = false := by
  unfold QB at h
  simp [World.frozen?, h]
theorem QB.kept (h : QB w qb K v) (e : w'.heap[qb]? = w.heap[qb]?) : QB w' qb K v := by unfold QB at *; rw [e]; exact h
theorem QB.put1 (h : QB w qb K v) (u : Value) : QB (w.setCell ⟨qb, 1, none⟩ u) qb K u := by
  have := heap_put (i := 1) h u
  simpa [QB] using this
end
theorem num_kept {w w' : World} {v : Value} {vs : List Int} {F : Nat → Prop} (h : OwnE EZ w 0 v vs) (hc : Chg F w w') (hf : ∀ j ∈ v.ownBlock.toList, ¬ F j) : OwnE EZ w' 0 v vs := by
  cases hv : v.ownBlock with
  | none =>
    obtain ⟨e1, h0 | ⟨g, cap, cur, rfl, _⟩⟩ := h
    · exact ⟨e1, Or.inl h0⟩
    · simp [Value.ownBlock] at hv
  | some g =>
    have hg := (World.ownsRow.lt h g hv).2
    have hb := hc.block g hg (hf g (by simp [hv]))
    obtain ⟨e1, h0 | ⟨g', cap, cur, rfl, q1, q2, q3⟩⟩ := h
    · exact ⟨e1, Or.inl h0⟩
    · simp [Value.ownBlock] at hv
      subst hv
      exact ⟨e1, Or.inr ⟨g', cap, cur, rfl, q1, hb.trans q2, q3⟩⟩
theorem num_lt {w : World} {v : Value} {vs : List Int} (h : OwnE EZ w 0 v vs) : ∀ j ∈ v.ownBlock.toList, j < w.heap.size := fun j hj => (World.ownsRow.lt h j (by simpa using hj)).2
theorem num_some {w : World} {v : Value} {vs : List Int} {n : Nat} (h : OwnE EZ w 0 v vs) (hl : vs.length = n) (hn : 0 < n) : ∃ g cp, v = .slice (some ⟨g, 0, none⟩) n cp ∧ n ≤ cp := by
  obtain ⟨g, cp, e, _, hc, _, _⟩ := h.some hl hn
  exact ⟨g, cp, e, hc⟩
/-- A number in a block of its own. -/
theorem new_num (W : World) (c : Int) : ∀ j u, (EZ.enc c)[j]? = some u → (W.alloc (.cells #[.int .i64 c] 3)).cell? ((⟨W.heap.size, 0, none⟩ : Addr).add j) = some u := by
  intro j u hu
  match j, hu with
  | 0, hu => cases hu; simp [Addr.add]
  | j + 1, hu => simp [EZ, encZ] at hu

/-- A queue told by K: the numbers that it holds, its blocks. -/
def QAt (w : World) (qb K : Nat) (vs : List Int) (f : List Nat) : Prop := ∃ v, QB w qb K v ∧ OwnE EZ w 0 v vs ∧ f = qb :: v.ownBlock.toList
section
variable {w w' : World} {qb K : Nat} {vs : List Int} {f : List Nat}
theorem QAt.lt (h : QAt w qb K vs f) : ∀ j ∈ f, j < w.heap.size := by
  obtain ⟨v, h1, h2, rfl⟩ := h
  intro j hj
  rcases List.mem_cons.1 hj with rfl | z
  · exact h1.lt
  · exact num_lt h2 j z
theorem QAt.kept {F : Nat → Prop} (h : QAt w qb K vs f) (hc : Chg F w w') (hf : ∀ j ∈ f, ¬ F j) : QAt w' qb K vs f := by
  obtain ⟨v, h1, h2, rfl⟩ := h
  exact ⟨v, h1.kept (hc.block qb h1.lt (hf qb List.mem_cons_self)), num_kept h2 hc fun j z => hf j (List.mem_cons_of_mem _ z), rfl⟩
theorem QAt.below (h : QAt w qb K vs f) (hb : Below w.heap.size w w') : QAt w' qb K vs f := h.kept (F := fun _ => False) (Chg.of_below hb) (fun _ _ q => q)
theorem QAt.mem (h : QAt w qb K vs f) : qb ∈ f := by
  obtain ⟨v, h1, h2, rfl⟩ := h
  exact List.mem_cons_self
end
set_option maxHeartbeats 1000000 in
theorem newQ_any (K : Nat) (w : World) : Calls Try.prog 16 #[.func (.func K) #[] #[]] w fun e w' => e = .returned (.pointer (some ⟨w.heap.size, 0, none⟩)) ∧ w' = w.alloc (.cells #[.func (.func K) #[] #[], .slice none 0 0] 58) := by
  go_enter Try.func16, Try.ntmps16
  go_wp2
  go_ret
  exact ⟨rfl, rfl⟩
set_option maxHeartbeats 1000000 in
theorem qMany_any {w : World} {qb K : Nat} {vs : List Int} {f : List Nat} (h : QAt w qb K vs f) : Calls Try.prog 31 #[.pointer (some ⟨qb, 0, none⟩)] w fun e w' => e = .returned (.int .i64 (vs.length : Nat)) ∧ w' = w := by
  obtain ⟨v, h1, h2, _⟩ := h
  obtain ⟨p, c, rfl⟩ := h2.form
  obtain ⟨_, c1⟩ := h1.cells
  clear h1 h2
  go_enter Try.func31, Try.ntmps31
  go_wp2
  go_ret
  exact ⟨rfl, rfl⟩
set_option maxHeartbeats 1000000 in
theorem qFirst_none {w : World} {qb K : Nat} {f : List Nat} (h : QAt w qb K [] f) : Calls Try.prog 27 #[.pointer (some ⟨qb, 0, none⟩)] w fun e w' => e = .returned (.tuple #[.int .i64 0, .iface 44 (.int .i64 5)]) ∧ w' = w := by
  obtain ⟨v, h1, h2, _⟩ := h
  obtain ⟨p, c, rfl⟩ := h2.form
  obtain ⟨_, c1⟩ := h1.cells
  clear h1 h2
  rw [List.length_nil] at c1
  go_enter Try.func27, Try.ntmps27
  go_wp2
  go_ret2
  exact ⟨rfl, rfl⟩
set_option maxHeartbeats 1000000 in
theorem qFirst_some {w : World} {qb K : Nat} {x : Int} {vs : List Int} {f : List Nat} (h : QAt w qb K (x :: vs) f) : Calls Try.prog 27 #[.pointer (some ⟨qb, 0, none⟩)] w fun e w' => e = .returned (.tuple #[.int .i64 x, .nilIface]) ∧ w' = w := by
  obtain ⟨v, h1, h2, _⟩ := h
  obtain ⟨n, hn⟩ : ∃ n, n = vs.length := ⟨_, rfl⟩
  obtain ⟨g, cp, rfl, hcp⟩ := num_some (n := n + 1) h2 (by rw [hn]; rfl) (Nat.succ_pos _)
  obtain ⟨_, c1⟩ := h1.cells
  have c2 := (h2.num (i := 0) (k := x) rfl).1
  have hz : ((n : Int) + 1 == 0) = false := beq_eq_false_iff_ne.2 (by omega)
  have hz2 : (0 : Int) < (n : Int) + 1 := by omega
  clear h1 h2 hn
  go_enter Try.func27, Try.ntmps27
  go_wp2
  go_ret2
  exact ⟨rfl, rfl⟩
#print axioms qFirst_some
end Go.Proofs.Ytcjfbenbdjlodab
