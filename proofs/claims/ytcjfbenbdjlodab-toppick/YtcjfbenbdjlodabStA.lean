/-
  Package stream: what goes from one queue to the other one; a stream in memory.
-/
import Derived.Test.YtcjfbenbdjlodabQQL
import Derived.Test.YtcjfbenbdjlodabQQG
namespace Go.Proofs.Ytcjfbenbdjlodab
open Go.RowKit Go.Sort Go.Proofs

theorem nodup_of_perm {f g : List Nat} (h : f.Nodup) (p : f.Perm g) : g.Nodup := p.nodup_iff.1 h
/-- Two steps, each of blocks of its own. -/
theorem Step.left {fa fb fa' : List Nat} {w w' : World} (s : Step fa fa' w w') (hf : (fa ++ fb).Nodup) (hlt : ∀ j ∈ fb, j < w.heap.size) : Step (fa ++ fb) (fa' ++ fb) w w' := s.more hf hlt
theorem Step.right {fa fb fb' : List Nat} {w w' : World} (s : Step fb fb' w w') (hf : (fa ++ fb).Nodup) (hlt : ∀ j ∈ fa, j < w.heap.size) : Step (fa ++ fb) (fa ++ fb') w w' :=
  (s.more (nodup_of_perm hf List.perm_append_comm) hlt).perm List.perm_append_comm List.perm_append_comm
theorem Step.undrawn {f g : List Nat} {w w' : World} {n : Nat} (s : Step f g (w.drewN n) w') : Step f g w w' := ⟨s.nodup, s.sub, ⟨s.chg.os, s.chg.tape, s.chg.output, s.chg.size, s.chg.block⟩⟩
theorem apart_l {f g : List Nat} (h : (f ++ g).Nodup) : ∀ j ∈ g, ¬ j ∈ f := fun j hj hi => (List.nodup_append.1 h).2.2 j hi j hj rfl
theorem apart_r {f g : List Nat} (h : (f ++ g).Nodup) : ∀ j ∈ f, ¬ j ∈ g := fun j hj hi => (List.nodup_append.1 h).2.2 j hj j hi rfl

set_option maxHeartbeats 4000000 in
theorem moveGL {w : World} {qa qb : Nat} {a b : Array (Int × Int)} {fa fb : List Nat} (ha : QAt w qa 17 (numG a) fa) (hb : QAt w qb 18 (numL b) fb) (hf : (fa ++ fb).Nodup) (h0 : 0 < a.size) (h1 : a.size ≤ 500) (h2 : b.size ≤ 500) :
    Calls Try.prog 30 #[.pointer (some ⟨qa, 0, none⟩), .pointer (some ⟨qb, 0, none⟩)] w fun e w' => e = .returned (.tuple #[]) ∧ ∃ fa' fb', QAt w' qa 17 (numG (hpop a)) fa' ∧ QAt w' qb 18 (numL (overA a b)) fb' ∧ Step (fa ++ fb) (fa' ++ fb') w w' := by
  have C1 := hidp (qPopG ha (List.nodup_append.1 hf).1 h0 h1)
  have HA := hidp ha
  have HB := hidp hb
  have HF := hidp hf
  have H2 := hidp h2
  obtain ⟨n, hn⟩ : ∃ n, valG a[0]! = n := ⟨_, rfl⟩
  rw [hn] at C1
  have HN := hidp hn
  clear ha hb hf h2 hn h0 h1
  go_enter Try.func30, Try.ntmps30
  go_wp2_with fail
  refine C1.out.mono ?_
  rintro e w1 ⟨rfl, fa', ka, s1⟩
  have hb1 : QAt w1 qb 18 (numL b) fb := HB.out.kept s1.chg (apart_l HF.out)
  have s2 := s1.left HF.out HB.out.lt
  have C2 := hidp (qPushL (c := n) hb1 (List.nodup_append.1 s2.nodup).2.1 H2.out)
  have KA := hidp ka
  have S2 := hidp s2
  clear ka s1 hb1 s2 C1
  go_wp2_with fail
  refine C2.out.mono ?_
  rintro e w2 ⟨rfl, fb', kb, s3⟩
  have ka2 := KA.out.kept s3.chg (apart_r S2.out.nodup)
  have s4 := S2.out.trans (s3.right S2.out.nodup KA.out.lt)
  have KB := hidp kb
  have KA2 := hidp ka2
  have S4 := hidp s4
  clear ka2 kb s3 s4 C2 KA S2
  go_wp2
  go_end0
  exact ⟨rfl, fa', fb', KA2.out, by unfold overA; rw [HN.out]; exact KB.out, S4.out⟩
set_option maxHeartbeats 4000000 in
theorem moveLG {w : World} {qa qb : Nat} {a b : Array (Int × Int)} {fa fb : List Nat} (ha : QAt w qa 17 (numG a) fa) (hb : QAt w qb 18 (numL b) fb) (hf : (fa ++ fb).Nodup) (h0 : 0 < b.size) (h1 : b.size ≤ 500) (h2 : a.size ≤ 500) :
    Calls Try.prog 30 #[.pointer (some ⟨qb, 0, none⟩), .pointer (some ⟨qa, 0, none⟩)] w fun e w' => e = .returned (.tuple #[]) ∧ ∃ fa' fb', QAt w' qa 17 (numG (overB b a)) fa' ∧ QAt w' qb 18 (numL (hpop b)) fb' ∧ Step (fa ++ fb) (fa' ++ fb') w w' := by
  have C1 := hidp (qPopL hb (List.nodup_append.1 hf).2.1 h0 h1)
  have HA := hidp ha
  have HB := hidp hb
  have HF := hidp hf
  have H2 := hidp h2
  obtain ⟨n, hn⟩ : ∃ n, valL b[0]! = n := ⟨_, rfl⟩
  rw [hn] at C1
  have HN := hidp hn
  clear ha hb hf h2 hn h0 h1
  go_enter Try.func30, Try.ntmps30
  go_wp2_with fail
  refine C1.out.mono ?_
  rintro e w1 ⟨rfl, fb', kb, s1⟩
  have ha1 : QAt w1 qa 17 (numG a) fa := HA.out.kept s1.chg (apart_r HF.out)
  have s2 := s1.right HF.out HA.out.lt
  have C2 := hidp (qPushG (c := n) ha1 (List.nodup_append.1 s2.nodup).1 H2.out)
  have KB := hidp kb
  have S2 := hidp s2
  clear kb s1 ha1 s2 C1
  go_wp2_with fail
  refine C2.out.mono ?_
  rintro e w2 ⟨rfl, fa', ka, s3⟩
  have kb2 := KB.out.kept s3.chg (apart_l S2.out.nodup)
  have s4 := S2.out.trans (s3.left S2.out.nodup KB.out.lt)
  have KA := hidp ka
  have KB2 := hidp kb2
  have S4 := hidp s4
  clear kb2 ka s3 s4 C2 KB S2
  go_wp2
  go_end0
  exact ⟨rfl, fa', fb', by unfold overB; rw [HN.out]; exact KA.out, KB2.out, S4.out⟩

/-- The cells of a stream. -/
def SB (w : World) (sb room : Nat) (lv : Value) (qa qb : Nat) : Prop := w.heap[sb]? = some (.cells #[.int .i64 (room : Int), lv, .pointer (some ⟨qa, 0, none⟩), .pointer (some ⟨qb, 0, none⟩)] 49 (0, 0))
section
variable {w w' : World} {sb room qa qb : Nat} {lv : Value}
theorem SB.lt (h : SB w sb room lv qa qb) : sb < w.heap.size := (Array.getElem?_eq_some_iff.1 h).1
theorem SB.cells (h : SB w sb room lv qa qb) : w.cell? ⟨sb, 0, none⟩ = some (.int .i64 (room : Int)) ∧ w.cell? ⟨sb, 1, none⟩ = some lv ∧ w.cell? ⟨sb, 2, none⟩ = some (.pointer (some ⟨qa, 0, none⟩)) ∧ w.cell? ⟨sb, 3, none⟩ = some (.pointer (some ⟨qb, 0, none⟩)) := by
  unfold SB at h
  simp [World.cell?, h]
theorem SB.fr (h : SB w sb room lv qa qb) (j : Nat) : w.frozen? ⟨sb, j, none⟩ = false := by
  unfold SB at h
  simp [World.frozen?, h]
theorem SB.kept (h : SB w sb room lv qa qb) (e : w'.heap[sb]? = w.heap[sb]?) : SB w' sb room lv qa qb := by unfold SB at *; rw [e]; exact h
theorem SB.put1 (h : SB w sb room lv qa qb) (u : Value) : SB (w.setCell ⟨sb, 1, none⟩ u) sb room u qa qb := by
  have := heap_put (i := 1) h u
  simpa [SB] using this
end
/-- The blocks of a stream that are no queue's. -/
def frm (sb : Nat) (lv : Value) : List Nat := sb :: lv.ownBlock.toList
/-- A stream: its last numbers, its two queues; its blocks. -/
structure SAq (w : World) (sb room : Nat) (ls : List Int) (lv : Value) (qa qb : Nat) (a b : Array (Int × Int)) (fa fb : List Nat) : Prop where
  mem : SB w sb room lv qa qb
  own : OwnE EZ w 0 lv ls
  low : QAt w qa 17 (numG a) fa
  high : QAt w qb 18 (numL b) fb
  nodup : (frm sb lv ++ (fa ++ fb)).Nodup
section
variable {w w' : World} {sb room qa qb : Nat} {ls : List Int} {lv : Value} {a b a' b' : Array (Int × Int)} {fa fb fa' fb' : List Nat}
theorem SAq.frm_lt (h : SAq w sb room ls lv qa qb a b fa fb) : ∀ j ∈ frm sb lv, j < w.heap.size := by
  intro j hj
  rcases List.mem_cons.1 hj with rfl | z
  · exact h.mem.lt
  · exact num_lt h.own j z
theorem SAq.q_lt (h : SAq w sb room ls lv qa qb a b fa fb) : ∀ j ∈ fa ++ fb, j < w.heap.size := by
  intro j hj
  rcases List.mem_append.1 hj with z | z
  · exact h.low.lt j z
  · exact h.high.lt j z
theorem SAq.step (h : SAq w sb room ls lv qa qb a b fa fb) (s : Step (fa ++ fb) (fa' ++ fb') w w') (ka : QAt w' qa 17 (numG a') fa') (kb : QAt w' qb 18 (numL b') fb') :
    SAq w' sb room ls lv qa qb a' b' fa' fb' ∧ Step (frm sb lv ++ (fa ++ fb)) (frm sb lv ++ (fa' ++ fb')) w w' := by
  have hs := s.right h.nodup h.frm_lt
  have ha := apart_r h.nodup
  exact ⟨⟨h.mem.kept (s.chg.block sb h.mem.lt (ha sb List.mem_cons_self)), num_kept h.own s.chg fun j z => ha j (List.mem_cons_of_mem _ z), ka, kb, hs.nodup⟩, hs⟩
theorem SAq.kept {F : Nat → Prop} (h : SAq w sb room ls lv qa qb a b fa fb) (hc : Chg F w w') (hf : ∀ j ∈ frm sb lv ++ (fa ++ fb), ¬ F j) : SAq w' sb room ls lv qa qb a b fa fb :=
  ⟨h.mem.kept (hc.block sb h.mem.lt (hf sb (List.mem_append_left _ List.mem_cons_self))), num_kept h.own hc fun j z => hf j (List.mem_append_left _ (List.mem_cons_of_mem _ z)),
    h.low.kept hc fun j z => hf j (List.mem_append_right _ (List.mem_append_left _ z)), h.high.kept hc fun j z => hf j (List.mem_append_right _ (List.mem_append_right _ z)), h.nodup⟩
end
def SAt (w : World) (sb room : Nat) (ls : List Int) (a b : Array (Int × Int)) (f : List Nat) : Prop := ∃ lv qa qb fa fb, SAq w sb room ls lv qa qb a b fa fb ∧ f = frm sb lv ++ (fa ++ fb)
section
variable {w w' : World} {sb room : Nat} {ls : List Int} {a b : Array (Int × Int)} {f : List Nat}
theorem SAt.lt (h : SAt w sb room ls a b f) : ∀ j ∈ f, j < w.heap.size := by
  obtain ⟨lv, qa, qb, fa, fb, h, rfl⟩ := h
  intro j hj
  rcases List.mem_append.1 hj with z | z
  · exact h.frm_lt j z
  · exact h.q_lt j z
theorem SAt.nodup (h : SAt w sb room ls a b f) : f.Nodup := by obtain ⟨lv, qa, qb, fa, fb, h, rfl⟩ := h; exact h.nodup
theorem SAt.kept {F : Nat → Prop} (h : SAt w sb room ls a b f) (hc : Chg F w w') (hf : ∀ j ∈ f, ¬ F j) : SAt w' sb room ls a b f := by
  obtain ⟨lv, qa, qb, fa, fb, h, rfl⟩ := h
  exact ⟨lv, qa, qb, fa, fb, h.kept hc hf, rfl⟩
end

set_option maxHeartbeats 4000000 in
set_option maxRecDepth 100000 in
theorem new_good {w : World} {room : Nat} (h1 : 1 ≤ room) (h2 : room ≤ 60) :
    Calls Try.prog 6 #[.int .i64 (room : Int)] w fun e w' => ∃ sb f, e = .returned (.tuple #[.pointer (some ⟨sb, 0, none⟩), .nilIface]) ∧ SAt w' sb room [] #[] #[] f ∧ (∀ j ∈ f, w.heap.size ≤ j) ∧ Below w.heap.size w w' := by
  have z1 : ¬ ((room : Int) < 1) := by omega
  have z2 : ¬ ((60 : Int) < (room : Int)) := by omega
  have z3 : decide ((room : Int) < 1) = false := decide_eq_false z1
  obtain ⟨n, hn⟩ : ∃ n, w.heap.size = n := ⟨_, rfl⟩
  obtain ⟨wa, hwa⟩ : ∃ wa, wa = w.alloc (.cells #[.func (.func 17) #[] #[], .slice none 0 0] 58) := ⟨_, rfl⟩
  obtain ⟨wb, hwb⟩ : ∃ wb, wb = wa.alloc (.cells #[.func (.func 18) #[] #[], .slice none 0 0] 58) := ⟨_, rfl⟩
  have sa : wa.heap.size = n + 1 := by rw [hwa]; simp [hn]
  have sb : wb.heap.size = n + 2 := by rw [hwb]; simp [sa]
  have CA : Hid (Calls Try.prog 16 #[.func (.func 17) #[] #[]] w fun e w' => e = .returned (.pointer (some ⟨n, 0, none⟩)) ∧ w' = wa) := by
    have := newQ_any 17 w
    rw [hn] at this
    exact this.mono fun e w' ⟨p, q⟩ => ⟨p, by rw [q, hwa]⟩
  have CB : Hid (Calls Try.prog 16 #[.func (.func 18) #[] #[]] wa fun e w' => e = .returned (.pointer (some ⟨n + 1, 0, none⟩)) ∧ w' = wb) := by
    have := newQ_any 18 wa
    rw [sa] at this
    exact this.mono fun e w' ⟨p, q⟩ => ⟨p, by rw [q, hwb]⟩
  have B1 : Below w.heap.size w wa := by rw [hwa]; exact (Below.refl _ w).alloc (Nat.le_refl _) _
  have B2 : Below w.heap.size w wb := by rw [hwb]; exact B1.alloc (by omega) _
  have q1 : QAt wb n 17 [] [n] := by
    refine ⟨.slice none 0 0, ?_, OwnE.nil EZ _ 0, rfl⟩
    have e1 : wa.heap[n]? = some (.cells #[.func (.func 17) #[] #[], .slice none 0 0] 58) := by rw [hwa, ← hn]; exact heap_alloc_new w _
    have e2 : wb.heap[n]? = wa.heap[n]? := by rw [hwb]; exact Below.heap_alloc _ _ _ (by omega)
    exact e2.trans e1
  have q2 : QAt wb (n + 1) 18 [] [n + 1] := by
    refine ⟨.slice none 0 0, ?_, OwnE.nil EZ _ 0, rfl⟩
    show wb.heap[n + 1]? = _
    rw [hwb, ← sa]; exact heap_alloc_new wa _
  have HQ1 := hidp q1
  have HQ2 := hidp q2
  have HB2 := hidp B2
  have HSB := hidp sb
  have HN := hidp hn
  clear q1 q2 B1 B2 hwa hwb sa hn
  go_enter Try.func6, Try.ntmps6
  go_wp2_with (first | (go_at_call 16; refine CA.out.mono ?_; rintro e w1 ⟨rfl, rfl⟩) | (go_at_call 16; refine CB.out.mono ?_; rintro e w1 ⟨rfl, rfl⟩))
  go_ret2
  have hbl : Below w1.heap.size w1 (w1.alloc (.cells #[.int .i64 (room : Int), .slice none 0 0, .pointer (some ⟨n, 0, none⟩), .pointer (some ⟨n + 1, 0, none⟩)] 49)) := (Below.refl _ w1).alloc (Nat.le_refl _) _
  have hsb := HSB.out
  have hwn := HN.out
  refine ⟨n + 2, frm (n + 2) (.slice none 0 0) ++ ([n] ++ [n + 1]), rfl, ⟨.slice none 0 0, n, n + 1, [n], [n + 1], ⟨?_, OwnE.nil EZ _ 0, HQ1.out.below hbl, HQ2.out.below hbl, ?_⟩, rfl⟩, ?_, HB2.out.alloc (by omega) _⟩
  · unfold SB
    rw [← hsb]; exact heap_alloc_new w1 _
  · simp [frm, Value.ownBlock]
  · intro j hj
    simp [frm, Value.ownBlock] at hj
    omega
set_option maxHeartbeats 1000000 in
theorem new_bad {w : World} {room : Int} (h : room < 1 ∨ 60 < room) :
    Calls Try.prog 6 #[.int .i64 room] w fun e w' => e = .returned (.tuple #[.pointer none, .iface 44 (.int .i64 1)]) ∧ w' = w := by
  rcases h with h1 | h1
  · go_enter Try.func6, Try.ntmps6
    go_wp2
    go_ret2
    exact ⟨rfl, rfl⟩
  · have h2 : ¬ (room < 1) := by omega
    go_enter Try.func6, Try.ntmps6
    go_wp2
    go_ret2
    exact ⟨rfl, rfl⟩
#print axioms new_good
end Go.Proofs.Ytcjfbenbdjlodab
