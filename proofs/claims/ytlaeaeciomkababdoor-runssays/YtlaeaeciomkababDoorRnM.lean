/-
  Package runs: what made keeps in memory: the runs so far, and the queue of numbers that wait.
-/
import Derived.Test.YtlaeaeciomkababDoorRnN
import Derived.Test.YtlaeaeciomkababDoorRnP
import Derived.Test.YtlaeaeciomkababDoorHDW
namespace Go.Proofs.YtlaeaeciomkababDoor
open Go.RowKit Go.Sort Go.Proofs

def MadeM (W : World) (rb qb : Nat) (rows : List (List Int)) (d : Array (Int × Int)) (f : List Nat) : Prop :=
  ∃ v ss fq fr, W.heap[rb]? = some (.cells #[v] 37 (0, 0)) ∧ QE EW 122 W qb 51 (d.toList.map valW) fq ∧ RowsS W v ss rows fr ∧ f = rb :: (fq ++ fr) ∧ f.Nodup
theorem box_lt {W : World} {rb : Nat} {o : Obj} (h : W.heap[rb]? = some o) : rb < W.heap.size := (Array.getElem?_eq_some_iff.1 h).1
theorem MadeM.lt {W : World} {rb qb : Nat} {rows : List (List Int)} {d : Array (Int × Int)} {f : List Nat} (h : MadeM W rb qb rows d f) : ∀ j ∈ f, j < W.heap.size := by
  obtain ⟨v, ss, fq, fr, h1, h2, h3, rfl, _⟩ := h
  intro j hj
  rcases List.mem_cons.1 hj with rfl | z
  · exact box_lt h1
  · rcases List.mem_append.1 z with z | z
    · exact h2.lt j z
    · exact h3.lt j z
theorem MadeM.nodup {W : World} {rb qb : Nat} {rows : List (List Int)} {d : Array (Int × Int)} {f : List Nat} (h : MadeM W rb qb rows d f) : f.Nodup := by
  obtain ⟨v, ss, fq, fr, h1, h2, h3, rfl, hn⟩ := h
  exact hn
theorem MadeM.kept {F : Nat → Prop} {W W' : World} {rb qb : Nat} {rows : List (List Int)} {d : Array (Int × Int)} {f : List Nat} (h : MadeM W rb qb rows d f) (hc : Chg F W W') (hf : ∀ j ∈ f, ¬ F j) : MadeM W' rb qb rows d f := by
  obtain ⟨v, ss, fq, fr, h1, h2, h3, rfl, hn⟩ := h
  exact ⟨v, ss, fq, fr, (hc.block rb (box_lt h1) (hf rb List.mem_cons_self)).trans h1, h2.kept hc fun j z => hf j (List.mem_cons_of_mem _ (List.mem_append_left _ z)),
    h3.kept hc fun j z => hf j (List.mem_cons_of_mem _ (List.mem_append_right _ z)), rfl, hn⟩
theorem MadeM.below {W W' : World} {rb qb : Nat} {rows : List (List Int)} {d : Array (Int × Int)} {f : List Nat} (h : MadeM W rb qb rows d f) (hb : Below W.heap.size W W') : MadeM W' rb qb rows d f := h.kept (F := fun _ => False) (Chg.of_below hb) (fun _ _ q => q)
theorem own_cellsZ {α : Type} {E : El Tryd.prog α} {w : World} {v : Value} {vs : List α} (h : OwnE E w 0 v vs) : ∀ j ∈ v.ownBlock.toList, ∃ o, w.heap[j]? = some o ∧ o.isCells = true := by
  intro j hj
  obtain ⟨e1, h0 | ⟨g, cap, cur, rfl, q1, q2, q3⟩⟩ := h
  · rw [h0.1] at hj; simp [Value.ownBlock] at hj
  · simp [Value.ownBlock] at hj
    subst hj
    exact ⟨_, q2, rfl⟩
theorem RowsS.cellsAt {w : World} {v : Value} {ss : List Sv} {rows : List (List Int)} {f : List Nat} (h : RowsS w v ss rows f) : ∀ j ∈ f, ∃ o, w.heap[j]? = some o ∧ o.isCells = true := by
  intro j hj
  rw [h.bf] at hj
  rcases List.mem_append.1 hj with z | z
  · exact own_cellsZ h.own j z
  · obtain ⟨i, s, hs, hj⟩ := blks_mem z
    obtain ⟨r, _, ho⟩ := h.rowOf hs
    exact own_cellsZ ho j hj
theorem MadeM.cellsAt {W : World} {rb qb : Nat} {rows : List (List Int)} {d : Array (Int × Int)} {f : List Nat} (h : MadeM W rb qb rows d f) : ∀ j ∈ f, ∃ o, W.heap[j]? = some o ∧ o.isCells = true := by
  obtain ⟨v, ss, fq, fr, h1, h2, h3, rfl, _⟩ := h
  intro j hj
  rcases List.mem_cons.1 hj with rfl | z
  · exact ⟨_, h1, rfl⟩
  · rcases List.mem_append.1 z with z | z
    · exact qe_cellsW h2 j z
    · exact h3.cellsAt j z
theorem goodK {d : Array (Int × Int)} (h : AllP GW d) : AllP KW d := h.mono fun _ q => q.2
theorem made_many {W : World} {rb qb : Nat} {rows : List (List Int)} {d : Array (Int × Int)} {f : List Nat} (h : MadeM W rb qb rows d f) :
    Calls Tryd.prog 52 #[.pointer (some ⟨qb, 0, none⟩)] W fun e w' => e = .returned (.int .i64 (d.size : Nat)) ∧ w' = W := by
  obtain ⟨v, ss, fq, fr, h1, h2, h3, rfl, _⟩ := h
  exact qManyW h2
theorem nodup_mid {rb : Nat} {fq fr fq' : List Nat} {m : Nat} (h : (rb :: (fq ++ fr)).Nodup) (hlt : ∀ j ∈ rb :: (fq ++ fr), j < m) (hn : fq'.Nodup) (hs : ∀ j ∈ fq', j ∈ fq ∨ m ≤ j) : (rb :: (fq' ++ fr)).Nodup := by
  obtain ⟨h1, h2⟩ := List.nodup_cons.1 h
  obtain ⟨h3, h4, h5⟩ := List.nodup_append.1 h2
  refine List.nodup_cons.2 ⟨fun q => ?_, List.nodup_append.2 ⟨hn, h4, fun a ha b hb e => ?_⟩⟩
  · rcases List.mem_append.1 q with z | z
    · rcases hs rb z with t | t
      · exact h1 (List.mem_append_left _ t)
      · have := hlt rb List.mem_cons_self; omega
    · exact h1 (List.mem_append_right _ z)
  · subst e
    rcases hs a ha with t | t
    · exact h5 a t a hb rfl
    · have := hlt a (List.mem_cons_of_mem _ (List.mem_append_right _ hb)); omega
/-- Another queue. -/
theorem MadeM.queue {W W' : World} {rb qb : Nat} {rows : List (List Int)} {d d' : Array (Int × Int)} {v : Value} {ss : List Sv} {fq fr fq' : List Nat} (h1 : W.heap[rb]? = some (.cells #[v] 37 (0, 0)))
    (h2 : QE EW 122 W qb 51 (d.toList.map valW) fq) (h3 : RowsS W v ss rows fr) (hn : (rb :: (fq ++ fr)).Nodup)
    (q : QE EW 122 W' qb 51 (d'.toList.map valW) fq') (s : Step fq fq' W W') :
    MadeM W' rb qb rows d' (rb :: (fq' ++ fr)) ∧ Step (rb :: (fq ++ fr)) (rb :: (fq' ++ fr)) W W' := by
  obtain ⟨n1, n2⟩ := List.nodup_cons.1 hn
  obtain ⟨n3, n4, n5⟩ := List.nodup_append.1 n2
  have hlt : ∀ j ∈ rb :: (fq ++ fr), j < W.heap.size := by
    intro j hj
    rcases List.mem_cons.1 hj with rfl | z
    · exact box_lt h1
    · rcases List.mem_append.1 z with z | z
      · exact h2.lt j z
      · exact h3.lt j z
  have hn' := nodup_mid hn hlt s.nodup s.sub
  refine ⟨⟨v, ss, fq', fr, (s.chg.block rb (box_lt h1) fun z => n1 (List.mem_append_left _ z)).trans h1, q, h3.kept s.chg fun j hj z => n5 j z j hj rfl, rfl, hn'⟩, hn', fun j hj => ?_, s.chg.mono fun j z => Or.inl (List.mem_cons_of_mem _ (List.mem_append_left _ z))⟩
  rcases List.mem_cons.1 hj with rfl | z
  · exact Or.inl List.mem_cons_self
  · rcases List.mem_append.1 z with z | z
    · exact (s.sub j z).imp_left fun t => List.mem_cons_of_mem _ (List.mem_append_left _ t)
    · exact Or.inl (List.mem_cons_of_mem _ (List.mem_append_right _ z))
theorem made_pop {W : World} {rb qb : Nat} {rows : List (List Int)} {d : Array (Int × Int)} {f : List Nat} (h : MadeM W rb qb rows d f) (h0 : 0 < d.size) (hs : d.size ≤ 500) (hg : AllP GW d) :
    Calls Tryd.prog 53 #[.pointer (some ⟨qb, 0, none⟩)] W fun e w' => e = .returned (.tuple #[vW d[0]!, .nilIface]) ∧ ∃ f', MadeM w' rb qb rows (hpop d) f' ∧ Step f f' W w' := by
  obtain ⟨v, ss, fq, fr, h1, h2, h3, rfl, hn⟩ := h
  refine (qPopW h2 (List.nodup_append.1 (List.nodup_cons.1 hn).2).1 h0 hs fun w2 g _ _ => ⟨KW, goodK hg, cmpW_any w2 g⟩).mono ?_
  rintro e w' ⟨he, f', q, s⟩
  exact ⟨he, _, MadeM.queue h1 h2 h3 hn q s⟩
theorem made_push {W : World} {rb qb : Nat} {rows : List (List Int)} {d : Array (Int × Int)} {f : List Nat} {x : Int × Int} (h : MadeM W rb qb rows d f) (hs : d.size ≤ 500) (hg : AllP GW d) (hx : GW x) :
    Calls Tryd.prog 55 #[.pointer (some ⟨qb, 0, none⟩), vW x] W fun e w' => e = .returned (.tuple #[]) ∧ ∃ f', MadeM w' rb qb rows (hpush d x) f' ∧ Step f f' W w' := by
  obtain ⟨v, ss, fq, fr, h1, h2, h3, rfl, hn⟩ := h
  refine (qPushW h2 (List.nodup_append.1 (List.nodup_cons.1 hn).2).1 hs fun w2 g _ _ => ⟨KW, goodK (hg.push hx), cmpW_any w2 g⟩).mono ?_
  rintro e w' ⟨he, f', q, s⟩
  exact ⟨he, _, MadeM.queue h1 h2 h3 hn q s⟩
theorem made_written {W : World} {rb qb : Nat} {rows : List (List Int)} {d : Array (Int × Int)} {f : List Nat} {r : Nat} {c : Int} (h : MadeM W rb qb rows d f) (hr : r ≤ rows.length) (hl : rows.length ≤ 60) (hl2 : ∀ (i : Nat) (l : List Int), rows[i]? = some l → l.length ≤ 60) :
    ∃ v, W.cell? ⟨rb, 0, none⟩ = some v ∧ Calls Tryd.prog 54 #[v, .agg #[.int .i64 r, .int .i64 c]] W fun e w' => ∃ v' f', e = .returned v' ∧ w'.cell? ⟨rb, 0, none⟩ = some v ∧ w'.frozen? ⟨rb, 0, none⟩ = false ∧
      MadeM (w'.setCell ⟨rb, 0, none⟩ v') rb qb (putR rows r c) d f' ∧ Step f f' W (w'.setCell ⟨rb, 0, none⟩ v') ∧ Chg (· ∈ f) W w' ∧ ∃ p n k, v' = .slice p n k := by
  obtain ⟨v, ss, fq, fr, h1, h2, h3, rfl, hn⟩ := h
  have hlt : ∀ j ∈ rb :: (fq ++ fr), j < W.heap.size := MadeM.lt ⟨v, ss, fq, fr, h1, h2, h3, rfl, hn⟩
  obtain ⟨n1, n2⟩ := List.nodup_cons.1 hn
  obtain ⟨n3, n4, n5⟩ := List.nodup_append.1 n2
  refine ⟨v, by simp [World.cell?, h1], (written_any h3 n4 hr (by omega) fun i l hi => by have := hl2 i l hi; omega).mono ?_⟩
  rintro e w' ⟨v', ss', f', rfl, hR, hS⟩
  have hb : w'.heap[rb]? = some (.cells #[v] 37 (0, 0)) := (hS.chg.block rb (box_lt h1) fun z => n1 (List.mem_append_right _ z)).trans h1
  have hc : Chg (· = rb) w' (w'.setCell ⟨rb, 0, none⟩ v') := (Chg.refl (· = rb) w').setCell (p := ⟨rb, 0, none⟩) (Or.inl rfl) _
  have hrf : rb ∉ f' := fun z => by
    rcases hS.sub rb z with t | t
    · exact n1 (List.mem_append_right _ t)
    · have := box_lt h1; omega
  have hnd : (rb :: (fq ++ f')).Nodup := by
    refine List.nodup_cons.2 ⟨fun q => ?_, List.nodup_append.2 ⟨n3, hS.nodup, fun a ha b hb e => ?_⟩⟩
    · rcases List.mem_append.1 q with z | z
      · exact n1 (List.mem_append_left _ z)
      · exact hrf z
    · subst e
      rcases hS.sub a hb with t | t
      · exact n5 a ha a t rfl
      · have := h2.lt a ha; omega
  have hq1 : QE EW 122 w' qb 51 (d.toList.map valW) fq := h2.kept hS.chg fun j hj z => n5 j hj j z rfl
  have hb2 : (w'.setCell ⟨rb, 0, none⟩ v').heap[rb]? = some (.cells #[v'] 37 (0, 0)) := by
    have := heap_put (i := 0) hb v'
    simpa using this
  refine ⟨v', rb :: (fq ++ f'), rfl, by simp [World.cell?, hb], by simp [World.frozen?, hb], ⟨v', ss', fq, f', hb2, hq1.kept hc fun j hj e => n1 (List.mem_append_left _ (by rw [← e]; exact hj)), hR.kept hc fun j hj e => hrf (by rw [← e]; exact hj), rfl, hnd⟩,
    ⟨hnd, fun j hj => ?_, (hS.chg.mono (G := (· ∈ rb :: (fq ++ fr))) fun j z => Or.inl (List.mem_cons_of_mem _ (List.mem_append_right _ z))).setCell (p := ⟨rb, 0, none⟩) (Or.inl List.mem_cons_self) _⟩,
    hS.chg.mono fun j z => Or.inl (List.mem_cons_of_mem _ (List.mem_append_right _ z)), by obtain ⟨p, k, e⟩ := hR.form; exact ⟨p, _, k, e⟩⟩
  rcases List.mem_cons.1 hj with rfl | z
  · exact Or.inl List.mem_cons_self
  · rcases List.mem_append.1 z with z | z
    · exact Or.inl (List.mem_cons_of_mem _ (List.mem_append_left _ z))
    · exact (hS.sub j z).imp_left fun t => List.mem_cons_of_mem _ (List.mem_append_right _ t)
theorem MadeM.begin {W : World} {rb qb : Nat} (h1 : W.heap[rb]? = some (.cells #[.slice none 0 0] 37 (0, 0))) (h2 : QE EW 122 W qb 51 ((#[] : Array (Int × Int)).toList.map valW) [qb]) (hne : rb ≠ qb) : MadeM W rb qb [] #[] [rb, qb] :=
  ⟨.slice none 0 0, [], [qb], [], h1, h2, RowsS.nil W, rfl, by simp [hne]⟩
#print axioms made_written
#print axioms made_pop
end Go.Proofs.YtlaeaeciomkababDoor
