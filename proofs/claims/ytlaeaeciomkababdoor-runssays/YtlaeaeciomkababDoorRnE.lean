/-
  Package runs: merged.
-/
import Derived.Test.YtlaeaeciomkababDoorMgM
import Derived.Test.YtlaeaeciomkababDoorRnD
namespace Go.Proofs.YtlaeaeciomkababDoor
open Go.RowKit Go.Sort Go.Proofs
attribute [local go_sem] Oper.semAt_some

abbrev GSt := List Int × Array (Int × Int)
/-- When Drain is about to pop; when it has popped; when it ends. -/
def GJ (ls : List (List Int)) (ss : List Sv) (W2 : World) (ob pb qb : Nat) (s : GSt) (W : World) : Prop := ∃ f, MergM W ob pb qb ss s.1 s.2 f ∧ Step [ob, pb, qb] f W2 W ∧ MerP ls s.1 s.2 ls.flatten
def GJ2 (ls : List (List Int)) (ss : List Sv) (W2 : World) (ob pb qb : Nat) (s : GSt) (W : World) : Prop := 0 < s.2.size ∧ MerP ls s.1 s.2 ls.flatten ∧ ∃ f, MergM W ob pb qb ss s.1 (hpop s.2) f ∧ Step [ob, pb, qb] f W2 W
def GJE (ls : List (List Int)) (ss : List Sv) (W2 : World) (ob pb qb : Nat) (s : GSt) (W : World) : Prop := s.2.size = 0 ∧ MerP ls s.1 s.2 ls.flatten ∧ ∃ f, MergM W ob pb qb ss s.1 s.2 f ∧ Step [ob, pb, qb] f W2 W
def GMu (ls : List (List Int)) (s : GSt) : Nat := ls.flatten.length - s.1.length
theorem merg_drain {w : World} {ss : List Sv} {ls : List (List Int)} (hr : RunsIn w ss ls) (h60 : ls.flatten.length ≤ 60) {W2 : World} {ob pb qb : Nat} (hB2 : Below w.heap.size w W2) (ho : w.heap.size ≤ ob ∧ w.heap.size ≤ pb ∧ w.heap.size ≤ qb) (l' : Nat) (Bk : World → Prop) (hBk : ∀ W W', Bk W → KeepsOthers W W' → Bk W') (W : World) (s : GSt)
    (hJ : GJ ls ss W2 ob pb qb s W) (hB : Bk W)
    (hY : ∀ s W1, GJ2 ls ss W2 ob pb qb s W1 → Bk W1 → YieldAt Fence.wide 0 Tryd.prog l' #[vV (tbS ss) s.2[0]!] W1 fun e W' => e = .returned (.bool true) ∧ ∃ s' : GSt, GMu ls s' < GMu ls s ∧ GJ ls ss W2 ob pb qb s' W' ∧ Bk W') :
    CallsIn Fence.wide 1 Tryd.prog 63 #[.pointer (some ⟨qb, 0, none⟩), .func (.yield l') #[] #[]] W fun e W' => (∃ v, e = .returned v) ∧ ∃ s, GJE ls ss W2 ob pb qb s W' ∧ Bk W' := by
  refine drainV (tbS ss) l' Bk hBk qb (GJ ls ss W2 ob pb qb) (GJ2 ls ss W2 ob pb qb) (GJE ls ss W2 ob pb qb) (fun s => s.2) (GMu ls) ?_ ?_ hY s W hJ hB
  · rintro s W ⟨f, m, st, mp⟩
    have hbw : Below w.heap.size w W := hB2.trans (st.chg.below (B := w.heap.size) (fun j hj => by
      simp only [List.mem_cons, List.not_mem_nil, or_false] at hj
      omega) hB2.size)
    have hff : ∀ j ∈ f, w.heap.size ≤ j := fun j hj => by
      have := hB2.size
      rcases st.sub j hj with z | z
      · simp only [List.mem_cons, List.not_mem_nil, or_false] at z
        omega
      · omega
    obtain ⟨v, fq, h1, h2, h3, h4, rfl, hn⟩ := m
    have n4 := (List.nodup_cons.1 (List.nodup_cons.1 hn).2).2
    have hfq : ∀ j ∈ fq, w.heap.size ≤ j := fun j hj => hff j (List.mem_cons_of_mem _ (List.mem_cons_of_mem _ (List.mem_append_left _ hj)))
    refine ⟨fq, (List.nodup_append.1 n4).1, h3, by have := mp.size; show s.2.size ≤ 500; omega, fun h0 => ⟨fun w2 g hg hc => merg_cmp hr hbw hfq mp.good w2 g (hfq g hg) hc, fun f' W' q s' => ?_⟩⟩
    obtain ⟨m', t⟩ := MergM.queue h1 h2 h3 h4 hn q s'
    exact ⟨h0, mp, _, m', st.trans t⟩
  · rintro s W W' ⟨f, m, st, mp⟩ hz hb
    exact ⟨hz, mp, f, m.below hb, st.trans (Step.below m.nodup hb)⟩
theorem merg_out {B : Nat} {W2 W W' : World} {row : Option Nat} {ob pb qb : Nat} {ss : List Sv} {out : List Int} {d : Array (Int × Int)} {f : List Nat} (hB : W2.heap.size ≤ B) (hm : MergM W ob pb qb ss out d f) (hs : Step [ob, pb, qb] f W2 W) (hg : W.grownBy W' row)
    (hr : ∀ r, row = some r → B ≤ r ∧ ∃ o : Obj, W.heap[r]? = some o ∧ o.isCells = false) : MergM W' ob pb qb ss out d f ∧ Step [ob, pb, qb] f W2 W' := by
  obtain ⟨hc, h1, h2⟩ := own_out hg hr
  exact ⟨hm.kept hc fun j hj => by obtain ⟨o, e1, e2⟩ := hm.cellsAt j hj; exact h2 j o e1 e2, hs.side hc fun j e => Nat.le_trans hB (h1 j e)⟩
theorem rest_mod {ls : List (List Int)} (h60 : ∀ l ∈ ls, l.length ≤ 60) {c : Int} (h : 0 < (restL ls c).length) : c.toNat % 64 + 1 < 64 := by
  unfold restL at h
  rw [List.length_drop] at h
  have hl : (ls.getD (c.toNat / 64) []).length ≤ 60 := by
    rw [List.getD_eq_getElem?_getD]
    cases q : ls[c.toNat / 64]? with
    | none => simp
    | some l => exact h60 l (List.mem_of_getElem? q)
  omega
theorem merg_mu {ls : List (List Int)} {s : GSt} (h : MerP ls s.1 s.2 ls.flatten) (h0 : 0 < s.2.size) (c : Int) (d : Array (Int × Int)) : GMu ls (s.1 ++ [c], d) < GMu ls s := by
  have h1 := h.perm.length_eq
  have h2 := gv_cons (h.good.at h0)
  have h3 : 0 < (restsL ls s.2.toList).length := by
    have hm : s.2[0]! ∈ s.2.toList := by rw [getElem!_pos s.2 0 h0]; simp
    unfold restsL
    refine List.length_pos_of_mem (a := s.2[0]!.1) (List.mem_flatMap.2 ⟨_, hm, ?_⟩)
    rw [h2]; exact List.mem_cons_self
  unfold GMu
  rw [List.length_append] at h1
  simp only [List.length_append, List.length_cons, List.length_nil]
  omega
/-- 'append(dst, x)' at elements of any make, at a step of a region that draws its order, within a fence; where the new row lies. -/
theorem step_appendIn {F : Fence} {k : Nat} {P : Program} {α : Type} (E : El P α) {w : World} {ops : Array Oper} {o : Oper} {a : Act} {K : Act → World → Prop} {Q : Exit → Act → World → Prop} {R : Prop} (hgd : o.guard = none) (s x : Operand)
    (ho : o.op = .call { callee := .builtin .append, args := #[s, x], argTypes := #[E.S, E.S] }) (base : Nat) (v : Value) (ys : List α) (y : α) (ad : Addr) (c : Nat) (hs : a.eval s = v) (hown : OwnE E w base v ys)
    (hx : a.eval x = .slice (some ad) 1 c) (hc : ∀ j u, (E.enc y)[j]? = some u → w.cell? (ad.add j) = some u) (hsz : ys.length ≤ 100000) (hbase : base ≤ w.heap.size)
    (h : ∀ v' w', OwnE E w' base v' (ys ++ [y]) → w.grownBy w' v.ownBlock → (v'.ownBlock = v.ownBlock ∨ v'.ownBlock = some w.heap.size) → K (a.put o.dst v') w') :
    if Region.wanted o (yielded ops a.tmps) = true then Oper.wpIn F k P o a w K Q else R := by
  have hw : Region.wanted o (yielded ops a.tmps) = true := by simp [Region.wanted, hgd]
  rw [if_pos hw]
  obtain ⟨v', w', hr, h2, h3, h4⟩ := run_appendE w o.type base v ys [y] ad 1 c rfl hown (by rw [E.flat_one]; exact hc) (by omega) hbase
  unfold Oper.wpIn
  refine ⟨fun f hf => ?_, ?_⟩
  · unfold Oper.about at hf
    simp [ho, resolve, Target.leads] at hf
  · rw [Oper.semAt_eq _ _ _ (fun c hc => by rw [ho] at hc; cases hc)]
    unfold execOp
    simp only [ho, resolve, invoke, builtin, Sem.run_bind, Sem.run_pure, Result.andThen_ok, List.map_toArray, List.map_cons, List.map_nil, hs, hx, hr]
    exact h _ _ h2 h3 (h4 (by omega))
set_option maxHeartbeats 16000000 in
set_option maxRecDepth 100000 in
theorem merged_any {w : World} {p : Option Addr} {n cap : Nat} {ls : List (List Int)} (h : LLAt w (.slice p n cap) ls) (hn62 : n ≤ 9223372036854775807) (h60 : ls.flatten.length ≤ 60) (hup : ∀ l ∈ ls, l.Pairwise (· ≤ ·)) :
    Calls Tryd.prog 35 #[.slice p n cap] w fun e w' => ∃ v' out, e = .returned v' ∧ OwnE EZ w' 0 v' out ∧ (∀ j ∈ v'.ownBlock.toList, w.heap.size ≤ j) ∧ out.Perm ls.flatten ∧ out.Pairwise (· ≤ ·) ∧ Below w.heap.size w w' := by
  have hnl := h.len
  obtain ⟨ss, h1, h2, h3⟩ := h
  have hri : RunsIn w ss ls := ⟨h2, h3⟩
  have HN : Hid (n = ls.length) := hnl
  have HX := hidp h1
  have HRI := hidp hri
  have HUP := hidp hup
  have hl60 : ∀ l ∈ ls, l.length ≤ 60 := fun l hl => by
    obtain ⟨i, hi⟩ := List.getElem?_of_mem hl
    have a := flat_take ls hi
    have b := flat_le ls (i + 1)
    omega
  have HL60 := hidp hl60
  clear h1 h2 h3 hri hnl hup hl60
  refine (callsIn_wide (n := 2)).1 ?_
  refine callsIn_of_wp_marks Tryd.func35 rfl trivial ?_ rfl
  refine wpIn_wide.2 ?_
  simp only [Tryd.ntmps35, List.size_toArray, List.length_cons, List.length_nil, Nat.reduceAdd, Nat.reduceSub, Array.replicate_succ, Array.replicate_zero, List.push_toArray, List.append_toArray, List.nil_append, List.cons_append]
  go_wp2_with (go_at_call 60; refine (newQV _).mono ?_; rintro e w' ⟨rfl, rfl⟩)
  have q0 := newQV_at (tbS ss) (w.alloc (.cells #[.slice none 0 0] 22))
  rw [World.size_alloc] at q0
  have hob : (w.alloc (.cells #[.slice none 0 0] 22)).heap[w.heap.size]? = some (.cells #[.slice none 0 0] 22 (0, 0)) := World.alloc_heap_new w _
  generalize hwa : w.alloc (.cells #[.slice none 0 0] 22) = wa at q0 hob ⊢
  have hsa : wa.heap.size = w.heap.size + 1 := by rw [← hwa]; simp
  generalize hwb : wa.alloc (.cells #[.func (.func 61) #[] #[], .slice none 0 0] 140) = wb at q0 ⊢
  have hsb : wb.heap.size = w.heap.size + 2 := by rw [← hwb]; simp [hsa]
  have hqb2 : QE EV 140 (wb.alloc (.cells #[.pointer (some ⟨w.heap.size + 1, 0, none⟩)] 102)) (w.heap.size + 1) 61 ((#[] : Array (Int × Int)).toList.map (valV (tbS ss))) [w.heap.size + 1] := q0.below ((Below.refl _ wb).alloc (Nat.le_refl _) _)
  have hob2 : (wb.alloc (.cells #[.pointer (some ⟨w.heap.size + 1, 0, none⟩)] 102)).heap[w.heap.size]? = some (.cells #[.slice none 0 0] 22 (0, 0)) := (Below.heap_alloc _ _ _ (by omega)).trans ((by rw [← hwb]; exact Below.heap_alloc _ _ _ (by omega) : wb.heap[w.heap.size]? = wa.heap[w.heap.size]?).trans hob)
  have hpb2 : (wb.alloc (.cells #[.pointer (some ⟨w.heap.size + 1, 0, none⟩)] 102)).heap[w.heap.size + 1 + 1]? = some (.cells #[.pointer (some ⟨w.heap.size + 1, 0, none⟩)] 102 (0, 0)) := by
    have := World.alloc_heap_new wb (.cells #[.pointer (some ⟨w.heap.size + 1, 0, none⟩)] 102)
    rw [hsb] at this
    exact this
  have M0 : MergM (wb.alloc (.cells #[.pointer (some ⟨w.heap.size + 1, 0, none⟩)] 102)) w.heap.size (w.heap.size + 1 + 1) (w.heap.size + 1) ss [] #[] [w.heap.size, w.heap.size + 1 + 1, w.heap.size + 1] :=
    ⟨.slice none 0 0, [w.heap.size + 1], hob2, hpb2, hqb2, OwnE.nil EZ _ 0, rfl, by simp; omega⟩
  have B0 : Below w.heap.size w (wb.alloc (.cells #[.pointer (some ⟨w.heap.size + 1, 0, none⟩)] 102)) := by
    rw [← hwb, ← hwa]
    exact (((Below.refl _ w).alloc (Nat.le_refl _) _).alloc (by simp) _).alloc (by simp; omega) _
  have HM0 := hidp M0
  have HB0 := hidp B0
  clear q0 hob hwa hsa hwb hqb2 hob2 hpb2 M0 B0 hsb
  generalize wb.alloc (.cells #[.pointer (some ⟨w.heap.size + 1, 0, none⟩)] 102) = W2 at HM0 HB0 ⊢
  generalize hob : w.heap.size = ob at HM0 ⊢
  generalize hqb : ob + 1 = qb at HM0 ⊢
  generalize hpb : qb + 1 = pb at HM0 ⊢
  have HO : Hid (w.heap.size ≤ ob ∧ w.heap.size ≤ pb ∧ w.heap.size ≤ qb) := (by omega : w.heap.size ≤ ob ∧ w.heap.size ≤ pb ∧ w.heap.size ≤ qb)
  clear hob hqb hpb wa wb
  have HBS : Hid (∀ f wr, Step [ob, pb, qb] f W2 wr → Below w.heap.size w wr ∧ ∀ j ∈ f, w.heap.size ≤ j) := fun f wr s => by
    have ho := HO.out
    have hb2 := HB0.out.size
    refine ⟨HB0.out.trans (s.chg.below (B := w.heap.size) (fun j hj => by
      simp only [List.mem_cons, List.not_mem_nil, or_false] at hj
      omega) hb2), fun j hj => ?_⟩
    rcases s.sub j hj with z | z
    · simp only [List.mem_cons, List.not_mem_nil, or_false] at z
      omega
    · omega
  go_loopg [11] n (fun g vi wr => ∃ i : Nat, vi = .int .i64 i ∧ i + g = n ∧ ∃ d f, Hid (MergM wr ob pb qb ss [] d f) ∧ Hid (Step [ob, pb, qb] f W2 wr) ∧ Hid (MerP ls [] d (ls.take i).flatten))
  case atStart => exact ⟨0, rfl, by omega, #[], _, HM0, Step.refl W2 HM0.out.nodup, (show Hid _ from MerP.begin ls)⟩
  case round =>
    obtain ⟨i, rfl, hg, d, f, HM, HS, HP⟩ := hrel
    obtain ⟨hbw, hff⟩ := HBS.out _ _ HS.out
    have hcp : wr.cell? ⟨pb, 0, none⟩ = some (.pointer (some ⟨qb, 0, none⟩)) := by
      obtain ⟨v, fq, _, h2, _⟩ := HM.out
      simp [World.cell?, h2]
    by_cases hlt : i < n
    · have hlz : (i : Int) < (n : Int) := by omega
      obtain ⟨l, hl⟩ : ∃ l, ls[i]? = some l := ⟨_, List.getElem?_eq_getElem (by have := HN.out; omega)⟩
      obtain ⟨⟨q, k0, c1⟩, hs⟩ : ∃ s, ss[i]? = some s := ⟨_, List.getElem?_eq_getElem (by rw [HRI.out.1]; have := HN.out; omega)⟩
      have hsl := HRI.out.2 i _ l hs hl
      have hk0 : k0 = l.length := hsl.len.1
      obtain ⟨blk, off, rfl, _, _, hrd⟩ := (HX.out.below hbw).some (by omega)
      have c0 : wr.cell? ⟨blk, off + i, none⟩ = some (.slice q k0 c1) := hrd.sv hs
      have hfl : (ls.take (i + 1)).flatten = (ls.take i).flatten ++ l := by
        obtain ⟨hi, e⟩ := List.getElem?_eq_some_iff.1 hl
        rw [List.take_succ_eq_append_getElem hi, List.flatten_append, e]; simp
      have HFL := hidp hfl
      have hd60 : d.size ≤ 60 := by
        have h1 := HP.out.size
        have h2 := flat_le ls i
        omega
      cases l with
      | nil =>
        subst hk0
        clear hsl hs hl hrd hfl
        go_wp2
        go_roundg (n - (i + 1))
        case measure => omega
        case rel =>
          refine ⟨i + 1, by go_num, by omega, d, f, HM, HS, ?_⟩
          show MerP _ _ _ _
          rw [HFL.out, List.append_nil]; exact HP.out
      | cons a t =>
        obtain ⟨b, o, k, e1, e2⟩ := tb_first HRI.out hl (by simp)
        have hx : vV (tbS ss) (a, ((i * 64 : Nat) : Int)) = .slice q k0 c1 := by
          rw [hs] at e2
          unfold vV valV
          simp only [e1]
          cases e2
          rfl
        have hgx : GV ls (a, ((i * 64 : Nat) : Int)) := ⟨by show (0 : Int) ≤ ((i * 64 : Nat) : Int); omega, by show (restL ls ((i * 64 : Nat) : Int)).head? = _; rw [restL_first hl]; rfl⟩
        have hmore := HP.out.more hl
        rw [← HFL.out] at hmore
        have CP := merg_push HRI.out HM.out hbw hff (by omega) HP.out.good hgx
        rw [hx] at CP
        have HCP := hidp CP
        have HMO := hidp hmore
        have hkz : (0 : Int) < (k0 : Int) := by rw [hk0, List.length_cons]; omega
        clear hsl hs hl hrd hfl hk0 e1 e2 hx hgx hmore CP
        go_wp2_with (go_at_call 62; refine HCP.out.mono ?_; rintro e w' ⟨rfl, f', m2, s2⟩; have HM2 := hidp m2; have HS2 := hidp s2; clear m2 s2)
        go_roundg (n - (i + 1))
        case measure => omega
        case rel => exact ⟨i + 1, by go_num, by omega, _, f', HM2, HS.out.trans HS2.out, HMO⟩
    · have hlz : ¬ (i : Int) < (n : Int) := by omega
      have hp := HP.out
      rw [List.take_of_length_le (by have := HN.out; omega)] at hp
      have HPE := hidp hp
      clear hp
      go_wp2
      have hWB : W2.heap.size ≤ wr.heap.size := HS.out.chg.size
      have HWB := hidp hWB
      clear hcp hbw hff
      refine wp_range_state (σ := GSt) (gf := 63) (bd := #[.pointer (some ⟨qb, 0, none⟩)]) rfl (enters_of Tryd.func63 (by kernel_rfl) rfl) (fun s : GSt => #[vV (tbS ss) s.2[0]!]) (fun _ => rfl)
        (GJ ls ss W2 ob pb qb) (GJ2 ls ss W2 ob pb qb) (GJE ls ss W2 ob pb qb)
        (fun s a' W => ∃ (b o m k : Nat), a' = { tmps := #[.slice p n cap, undef, .slice none 0 0, .pointer (some ⟨ob, 0, none⟩), .pointer (some ⟨pb, 0, none⟩), undef, u6, .slice (some ⟨b, o, none⟩) m k, .pointer (some ⟨qb, 0, none⟩), .slice p n cap, .int .i64 n, .int .i64 i, .bool false, u13, u14, u15, u16, u17, u18, u19, u20, u21, .pointer (some ⟨qb, 0, none⟩), .func (.func 63) #[.pointer (some ⟨qb, 0, none⟩)] #[], .slice (some ⟨b, o, none⟩) m k, undef, undef, undef, undef, undef, undef, undef, undef, undef, undef, undef, undef, undef, undef], defers := [] } ∧ tbS ss s.2[0]!.2 = (some ⟨b, o, none⟩, m, k) ∧ GJ2 ls ss W2 ob pb qb s W)
        (fun s' s => GMu ls s' < GMu ls s) ?hJ ?hJE ?hJ3 ?seq ([], d) ⟨f, HM.out, HS.out, HPE.out⟩ ?assign ?body ?done
      case hJ =>
        rintro s W W' row ⟨f, m, st, mp⟩ hg hr
        obtain ⟨m', st'⟩ := merg_out HWB.out m st hg hr
        exact ⟨f, m', st', mp⟩
      case hJE =>
        rintro s W W' row ⟨hz, mp, f, m, st⟩ hg hr
        obtain ⟨m', st'⟩ := merg_out HWB.out m st hg hr
        exact ⟨hz, mp, f, m', st'⟩
      case hJ3 =>
        rintro a' s W W' row ⟨b, o, m0, k, e, hh, h0, mp, f, m, st⟩ hg hr
        obtain ⟨m', st'⟩ := merg_out HWB.out m st hg hr
        exact ⟨b, o, m0, k, e, hh, h0, mp, f, m', st'⟩
      case seq =>
        intro l' Bk hBk W s hJ hB hY
        exact merg_drain HRI.out h60 HB0.out HO.out l' Bk hBk W s hJ hB hY
      case assign =>
        rintro l' s W K hj2 hK
        obtain ⟨b, o, k, hh, _, _⟩ := tb_at HRI.out (gv_cons (hj2.2.1.good.at hj2.1))
        obtain ⟨m, hm⟩ : ∃ m, (restL ls s.2[0]!.2).tail.length + 1 = m := ⟨_, rfl⟩
        rw [hm] at hh
        have hv : vV (tbS ss) s.2[0]! = .slice (some ⟨b, o, none⟩) m k := by unfold vV valV; rw [hh]
        have HK : Hid _ := hK
        have HJ2 := hidp hj2
        have HHH := hidp hh
        clear hK hj2 hh hm
        simp only [hv]
        gi_wp2
        exact HK.out _ _ (KeepsOthers.refl W) ⟨b, o, m, k, rfl, HHH.out, HJ2.out⟩
      case body =>
        rintro l' s a' W ⟨b, o, m, k, rfl, hh, h0, mp, f, hm, st⟩
        obtain ⟨b', o', k', hh', hk, hrd⟩ := tb_at HRI.out (gv_cons (mp.good.at h0))
        rw [hh] at hh'
        simp only [Prod.mk.injEq, Option.some.injEq, Addr.mk.injEq, and_true] at hh'
        obtain ⟨⟨rfl, rfl⟩, hmm, rfl⟩ := hh'
        obtain ⟨a0, ha0⟩ : ∃ a, s.2[0]!.1 = a := ⟨_, rfl⟩
        obtain ⟨hbw, hff⟩ := HBS.out _ _ st
        obtain ⟨hp1, hp2⟩ := mp.pop HUP.out HL60.out h0
        have hmu := fun c d => merg_mu mp h0 c d
        have hrd2 := hrd.below hbw hrd.1
        have cr : W.cell? ⟨b, o, none⟩ = some (.int .i64 s.2[0]!.1) := by
          have := hrd2.int (i := 0) (k := s.2[0]!.1) (by simp)
          simpa using this
        have hout60 : s.1.length ≤ 60 := by
          have := mp.perm.length_eq
          rw [List.length_append] at this
          omega
        obtain ⟨v, fq, h1, h2, h3, h4, hf, hnd⟩ := id hm
        subst hf
        have c1 : W.cell? ⟨ob, 0, none⟩ = some v := by simp [World.cell?, h1]
        have f1 : W.frozen? ⟨ob, 0, none⟩ = false := by simp [World.frozen?, h1]
        have c2 : W.cell? ⟨pb, 0, none⟩ = some (.pointer (some ⟨qb, 0, none⟩)) := by simp [World.cell?, h2]
        have hmx : Tryd.prog.follows .mixedOrders = true := by kernel_rfl
        have hobl : ob < W.heap.size := box_lt h1
        have hpbl : pb < W.heap.size := box_lt h2
        have hbl : b < W.heap.size := hrd2.1
        rw [ha0] at hp1 hp2 cr
        have hmz : (0 : Int) < (m : Int) := by omega
        have hmz2 : 0 < m := by omega
        have HP1 := hidp hp1
        have HP2 := hidp hp2
        have HMU := hidp (fun d => hmu a0 d)
        have HMM := hidp hmm
        have HH := hidp hh
        have HHM := hidp hm
        have HST := hidp st
        have HGD := hidp mp.good
        have HH0 := hidp h0
        have HA0 := hidp ha0
        have HRD := hidp hrd
        have HK1 := hidp hk
        have HSZ : Hid ((hpop s.2).size ≤ 60) := by have := mp.size; show _ ≤ _; rw [hpop_size]; omega
        obtain ⟨pv, kv, hvf⟩ := h4.form
        obtain ⟨m0, hm0⟩ : ∃ m, s.1.length = m := ⟨_, rfl⟩
        rw [hm0] at hvf
        subst hvf
        clear hp1 hp2 hmu hmm hh hm st mp h0 ha0 hrd hrd2 hk hbw hff
        gi_wp2
        refine wpIn_mono (Q := fun e a' w' => e = .normal ∧ ∃ (w1 : World) (p1 : Option Addr) (k1 : Nat), MergM (w1.setCell ⟨ob, 0, none⟩ (.slice p1 (m0 + 1) k1)) ob pb qb ss (s.1 ++ [a0]) (hpop s.2) (ob :: pb :: (fq ++ (Value.slice p1 (m0 + 1) k1).ownBlock.toList)) ∧ Step (ob :: pb :: (fq ++ (Value.slice pv m0 kv).ownBlock.toList)) (ob :: pb :: (fq ++ (Value.slice p1 (m0 + 1) k1).ownBlock.toList)) W (w1.setCell ⟨ob, 0, none⟩ (.slice p1 (m0 + 1) k1)) ∧ a' = { tmps := #[.slice p n cap, undef, .slice none 0 0, .pointer (some ⟨ob, 0, none⟩), .pointer (some ⟨pb, 0, none⟩), undef, u6, .slice (some ⟨b, o, none⟩) m k, .pointer (some ⟨qb, 0, none⟩), .slice p n cap, .int .i64 n, .int .i64 i, .bool false, u13, u14, u15, u16, u17, u18, u19, u20, u21, .pointer (some ⟨qb, 0, none⟩), .func (.func 63) #[.pointer (some ⟨qb, 0, none⟩)] #[], .slice (some ⟨b, o, none⟩) m k, .slice pv m0 kv, .slice (some ⟨b, o, none⟩) m k, .pointer (some ⟨b, o, none⟩), .int .i64 a0, .slice (some ⟨W.heap.size, 0, none⟩) 1 1, .slice p1 (m0 + 1) k1, undef, undef, undef, undef, undef, undef, undef, undef], defers := [] } ∧ w' = w1.setCell ⟨ob, 0, none⟩ (.slice p1 (m0 + 1) k1)) ?region ?rest
        case region =>
          refine wpIn_region_any hmx ?_
          change wpAnyIn _ _ _ _ _ _ _ _ _ (World.drew _)
          -- region begins
          refine wpAnyIn_ready (rs := [0, 1]) (by kernel_rfl) (by simp) ?_
          refine AllReadyIn.cons rfl (fun K hK => ?_) ?_
          · go_simp
            refine hK _ _ ?_
            clear hK K
            refine wpAnyIn_ready (rs := [1]) (by kernel_rfl) (by simp) ?_
            refine AllReadyIn.cons rfl (fun K hK => ?_) ?_
            · go_simp
              refine hK _ _ ?_
              clear hK K
              refine wpAnyIn_ready (rs := [2]) (by kernel_rfl) (by simp) ?_
              refine AllReadyIn.cons rfl (fun K hK => ?_) ?_
              · go_simp
                refine hK _ _ ?_
                clear hK K
                refine wpAnyIn_ready (rs := [3]) (by kernel_rfl) (by simp) ?_
                refine AllReadyIn.cons rfl (fun K hK => ?_) ?_
                · go_simp
                  refine hK _ _ ?_
                  clear hK K
                  refine wpAnyIn_ready (rs := [4]) (by kernel_rfl) (by simp) ?_
                  refine AllReadyIn.cons rfl (fun K hK => ?_) ?_
                  · go_simp
                    refine hK _ _ ?_
                    clear hK K
                    refine wpAnyIn_ready (rs := [5]) (by kernel_rfl) (by simp) ?_
                    refine AllReadyIn.cons rfl (fun K hK => ?_) ?_
                    · (refine step_appendIn EZ (by rfl) (.tmp 25) (.tmp 29) (by rfl) 0 (.slice pv m0 kv) s.1 a0 ⟨W.heap.size, 0, none⟩ 1 (by rfl) (OwnE.drewN (OwnE.alloc h4 _) 1) (by rfl) (newZ W _ rfl _) (by omega) (Nat.zero_le _) ?_; intro v1 w1 a1 a2 a3; obtain ⟨p1, k1, hv1⟩ := OwnE.form a1; rw [List.length_append, hm0, List.length_singleton] at hv1; subst hv1; obtain ⟨cc, fc, hM, hS⟩ := MergM.append h1 h2 h3 h4 hnd (below_drewN ((Below.refl _ W).alloc (Nat.le_refl _) _) 1) a1 a2 a3; have HM1 := hidp hM; have HS1 := hidp hS; clear a1 a2 a3 hM hS)
                      refine hK _ _ ?_
                      clear hK K
                      refine wpAnyIn_ready (rs := [6]) (by kernel_rfl) (by simp) ?_
                      refine AllReadyIn.cons rfl (fun K hK => ?_) ?_
                      · go_simp
                        refine hK _ _ ?_
                        clear hK K
                        refine wpAnyIn_done (by kernel_rfl) ?_ _
                        exact ⟨rfl, w1, p1, k1, HM1.out, HS1.out, rfl, rfl⟩
                      exact AllReadyIn.nil
                    exact AllReadyIn.nil
                  exact AllReadyIn.nil
                exact AllReadyIn.nil
              exact AllReadyIn.nil
            exact AllReadyIn.nil
          refine AllReadyIn.cons rfl (fun K hK => ?_) ?_
          · go_simp
            refine hK _ _ ?_
            clear hK K
            refine wpAnyIn_ready (rs := [0, 2]) (by kernel_rfl) (by simp) ?_
            refine AllReadyIn.cons rfl (fun K hK => ?_) ?_
            · go_simp
              refine hK _ _ ?_
              clear hK K
              refine wpAnyIn_ready (rs := [2]) (by kernel_rfl) (by simp) ?_
              refine AllReadyIn.cons rfl (fun K hK => ?_) ?_
              · go_simp
                refine hK _ _ ?_
                clear hK K
                refine wpAnyIn_ready (rs := [3]) (by kernel_rfl) (by simp) ?_
                refine AllReadyIn.cons rfl (fun K hK => ?_) ?_
                · go_simp
                  refine hK _ _ ?_
                  clear hK K
                  refine wpAnyIn_ready (rs := [4]) (by kernel_rfl) (by simp) ?_
                  refine AllReadyIn.cons rfl (fun K hK => ?_) ?_
                  · go_simp
                    refine hK _ _ ?_
                    clear hK K
                    refine wpAnyIn_ready (rs := [5]) (by kernel_rfl) (by simp) ?_
                    refine AllReadyIn.cons rfl (fun K hK => ?_) ?_
                    · (refine step_appendIn EZ (by rfl) (.tmp 25) (.tmp 29) (by rfl) 0 (.slice pv m0 kv) s.1 a0 ⟨W.heap.size, 0, none⟩ 1 (by rfl) (OwnE.drewN (OwnE.alloc h4 _) 1) (by rfl) (newZ W _ rfl _) (by omega) (Nat.zero_le _) ?_; intro v1 w1 a1 a2 a3; obtain ⟨p1, k1, hv1⟩ := OwnE.form a1; rw [List.length_append, hm0, List.length_singleton] at hv1; subst hv1; obtain ⟨cc, fc, hM, hS⟩ := MergM.append h1 h2 h3 h4 hnd (below_drewN ((Below.refl _ W).alloc (Nat.le_refl _) _) 1) a1 a2 a3; have HM1 := hidp hM; have HS1 := hidp hS; clear a1 a2 a3 hM hS)
                      refine hK _ _ ?_
                      clear hK K
                      refine wpAnyIn_ready (rs := [6]) (by kernel_rfl) (by simp) ?_
                      refine AllReadyIn.cons rfl (fun K hK => ?_) ?_
                      · go_simp
                        refine hK _ _ ?_
                        clear hK K
                        refine wpAnyIn_done (by kernel_rfl) ?_ _
                        exact ⟨rfl, w1, p1, k1, HM1.out, HS1.out, rfl, rfl⟩
                      exact AllReadyIn.nil
                    exact AllReadyIn.nil
                  exact AllReadyIn.nil
                exact AllReadyIn.nil
              exact AllReadyIn.nil
            refine AllReadyIn.cons rfl (fun K hK => ?_) ?_
            · go_simp
              refine hK _ _ ?_
              clear hK K
              refine wpAnyIn_ready (rs := [0, 3]) (by kernel_rfl) (by simp) ?_
              refine AllReadyIn.cons rfl (fun K hK => ?_) ?_
              · go_simp
                refine hK _ _ ?_
                clear hK K
                refine wpAnyIn_ready (rs := [3]) (by kernel_rfl) (by simp) ?_
                refine AllReadyIn.cons rfl (fun K hK => ?_) ?_
                · go_simp
                  refine hK _ _ ?_
                  clear hK K
                  refine wpAnyIn_ready (rs := [4]) (by kernel_rfl) (by simp) ?_
                  refine AllReadyIn.cons rfl (fun K hK => ?_) ?_
                  · go_simp
                    refine hK _ _ ?_
                    clear hK K
                    refine wpAnyIn_ready (rs := [5]) (by kernel_rfl) (by simp) ?_
                    refine AllReadyIn.cons rfl (fun K hK => ?_) ?_
                    · (refine step_appendIn EZ (by rfl) (.tmp 25) (.tmp 29) (by rfl) 0 (.slice pv m0 kv) s.1 a0 ⟨W.heap.size, 0, none⟩ 1 (by rfl) (OwnE.drewN (OwnE.alloc h4 _) 1) (by rfl) (newZ W _ rfl _) (by omega) (Nat.zero_le _) ?_; intro v1 w1 a1 a2 a3; obtain ⟨p1, k1, hv1⟩ := OwnE.form a1; rw [List.length_append, hm0, List.length_singleton] at hv1; subst hv1; obtain ⟨cc, fc, hM, hS⟩ := MergM.append h1 h2 h3 h4 hnd (below_drewN ((Below.refl _ W).alloc (Nat.le_refl _) _) 1) a1 a2 a3; have HM1 := hidp hM; have HS1 := hidp hS; clear a1 a2 a3 hM hS)
                      refine hK _ _ ?_
                      clear hK K
                      refine wpAnyIn_ready (rs := [6]) (by kernel_rfl) (by simp) ?_
                      refine AllReadyIn.cons rfl (fun K hK => ?_) ?_
                      · go_simp
                        refine hK _ _ ?_
                        clear hK K
                        refine wpAnyIn_done (by kernel_rfl) ?_ _
                        exact ⟨rfl, w1, p1, k1, HM1.out, HS1.out, rfl, rfl⟩
                      exact AllReadyIn.nil
                    exact AllReadyIn.nil
                  exact AllReadyIn.nil
                exact AllReadyIn.nil
              refine AllReadyIn.cons rfl (fun K hK => ?_) ?_
              · go_simp
                refine hK _ _ ?_
                clear hK K
                refine wpAnyIn_ready (rs := [0, 4]) (by kernel_rfl) (by simp) ?_
                refine AllReadyIn.cons rfl (fun K hK => ?_) ?_
                · go_simp
                  refine hK _ _ ?_
                  clear hK K
                  refine wpAnyIn_ready (rs := [4]) (by kernel_rfl) (by simp) ?_
                  refine AllReadyIn.cons rfl (fun K hK => ?_) ?_
                  · go_simp
                    refine hK _ _ ?_
                    clear hK K
                    refine wpAnyIn_ready (rs := [5]) (by kernel_rfl) (by simp) ?_
                    refine AllReadyIn.cons rfl (fun K hK => ?_) ?_
                    · (refine step_appendIn EZ (by rfl) (.tmp 25) (.tmp 29) (by rfl) 0 (.slice pv m0 kv) s.1 a0 ⟨W.heap.size, 0, none⟩ 1 (by rfl) (OwnE.drewN (OwnE.alloc h4 _) 1) (by rfl) (newZ W _ rfl _) (by omega) (Nat.zero_le _) ?_; intro v1 w1 a1 a2 a3; obtain ⟨p1, k1, hv1⟩ := OwnE.form a1; rw [List.length_append, hm0, List.length_singleton] at hv1; subst hv1; obtain ⟨cc, fc, hM, hS⟩ := MergM.append h1 h2 h3 h4 hnd (below_drewN ((Below.refl _ W).alloc (Nat.le_refl _) _) 1) a1 a2 a3; have HM1 := hidp hM; have HS1 := hidp hS; clear a1 a2 a3 hM hS)
                      refine hK _ _ ?_
                      clear hK K
                      refine wpAnyIn_ready (rs := [6]) (by kernel_rfl) (by simp) ?_
                      refine AllReadyIn.cons rfl (fun K hK => ?_) ?_
                      · go_simp
                        refine hK _ _ ?_
                        clear hK K
                        refine wpAnyIn_done (by kernel_rfl) ?_ _
                        exact ⟨rfl, w1, p1, k1, HM1.out, HS1.out, rfl, rfl⟩
                      exact AllReadyIn.nil
                    exact AllReadyIn.nil
                  exact AllReadyIn.nil
                refine AllReadyIn.cons rfl (fun K hK => ?_) ?_
                · go_simp
                  refine hK _ _ ?_
                  clear hK K
                  refine wpAnyIn_ready (rs := [0]) (by kernel_rfl) (by simp) ?_
                  refine AllReadyIn.cons rfl (fun K hK => ?_) ?_
                  · go_simp
                    refine hK _ _ ?_
                    clear hK K
                    refine wpAnyIn_ready (rs := [5]) (by kernel_rfl) (by simp) ?_
                    refine AllReadyIn.cons rfl (fun K hK => ?_) ?_
                    · (refine step_appendIn EZ (by rfl) (.tmp 25) (.tmp 29) (by rfl) 0 (.slice pv m0 kv) s.1 a0 ⟨W.heap.size, 0, none⟩ 1 (by rfl) (OwnE.drewN (OwnE.alloc h4 _) 1) (by rfl) (newZ W _ rfl _) (by omega) (Nat.zero_le _) ?_; intro v1 w1 a1 a2 a3; obtain ⟨p1, k1, hv1⟩ := OwnE.form a1; rw [List.length_append, hm0, List.length_singleton] at hv1; subst hv1; obtain ⟨cc, fc, hM, hS⟩ := MergM.append h1 h2 h3 h4 hnd (below_drewN ((Below.refl _ W).alloc (Nat.le_refl _) _) 1) a1 a2 a3; have HM1 := hidp hM; have HS1 := hidp hS; clear a1 a2 a3 hM hS)
                      refine hK _ _ ?_
                      clear hK K
                      refine wpAnyIn_ready (rs := [6]) (by kernel_rfl) (by simp) ?_
                      refine AllReadyIn.cons rfl (fun K hK => ?_) ?_
                      · go_simp
                        refine hK _ _ ?_
                        clear hK K
                        refine wpAnyIn_done (by kernel_rfl) ?_ _
                        exact ⟨rfl, w1, p1, k1, HM1.out, HS1.out, rfl, rfl⟩
                      exact AllReadyIn.nil
                    exact AllReadyIn.nil
                  exact AllReadyIn.nil
                exact AllReadyIn.nil
              exact AllReadyIn.nil
            exact AllReadyIn.nil
          exact AllReadyIn.nil
        -- region ends
        case rest =>
          rintro e a' w' ⟨rfl, w1, p1, k1, hM, hS, rfl, rfl⟩
          have HM1 := hidp hM
          have HS1 := hidp hS
          clear hM hS h1 h2 h3 h4 hnd
          have hoth : KeepsOthers W (w1.setCell ⟨ob, 0, none⟩ (.slice p1 (m0 + 1) k1)) := others_chgV HS1.out.chg fun j hj => HHM.out.cellsAt j hj
          have hstn := HST.out.trans HS1.out
          obtain ⟨hbn, hfn⟩ := HBS.out _ _ hstn
          have HOT := hidp hoth
          have HSN := hidp hstn
          by_cases h1m : 1 < m
          · have hlen : (restL ls s.2[0]!.2).length = m := by
              have := congrArg List.length (gv_cons (HGD.out.at HH0.out))
              rw [List.length_cons] at this
              have := HMM.out
              omega
            obtain ⟨b1, hb1⟩ : ∃ x, (restL ls s.2[0]!.2)[1]? = some x := ⟨_, List.getElem?_eq_getElem (by omega)⟩
            have hmer := HP2.out b1 hb1
            have hmod := rest_mod HL60.out (c := s.2[0]!.2) (by omega)
            have hnx := tb_next (HGD.out.at HH0.out).1 hmod HH.out
            have hx : vV (tbS ss) (b1, s.2[0]!.2 + 1) = .slice (some ⟨b, o + 1, none⟩) (m - 1) (k - 1) := by
              unfold vV valV
              simp only [hnx]
            have hgx : GV ls (b1, s.2[0]!.2 + 1) := hmer.good _ ((hpush_perm (hpop s.2) (b1, s.2[0]!.2 + 1)).symm.subset (List.mem_append_right _ (by simp)))
            have hmd := HM1.out.below (W' := (w1.setCell ⟨ob, 0, none⟩ (.slice p1 (m0 + 1) k1)).drew) (below_drewN (Below.refl _ _) 1)
            have CP := merg_push HRI.out hmd (below_drewN hbn 1) hfn (by have := HSZ.out; omega) (HGD.out.hpop HH0.out) hgx
            rw [hx] at CP
            have HCP := hidp CP
            have HMER := hidp hmer
            have hk1 : ¬ k = 1 := by have := HK1.out; have := HMM.out; omega
            have hk2 : 1 ≤ k := by have := HK1.out; have := HMM.out; omega
            have hm1 : 1 ≤ m := by omega
            have hm1z : (1 : Int) ≤ (m : Int) := by omega
            have hmkz : (m : Int) ≤ (k : Int) := by have := HK1.out; have := HMM.out; omega
            have hmk : m ≤ k := by omega
            have h1mz : (1 : Int) < (m : Int) := by omega
            have hcp2 : (w1.setCell ⟨ob, 0, none⟩ (.slice p1 (m0 + 1) k1)).cell? ⟨pb, 0, none⟩ = some (.pointer (some ⟨qb, 0, none⟩)) := by
              obtain ⟨_, _, _, q2, _⟩ := HM1.out
              simp [World.cell?, q2]
            clear hmer hx hnx hmod hgx hmd CP hb1 hlen hoth hstn hbn hfn
            gi_wp2
            gi_region_with_o (refine ⟨trivial, rfl, ?_⟩; gi_at_call 62; refine (CallsIn.inRound l' (callsIn_wide.2 HCP.out)).mono ?_; rintro e w9 ⟨rfl, f9, m9, s9⟩; have HM9 := hidp m9; have HS9 := hidp s9; clear m9 s9)
            all_goals
              gi_wp2
              have s10 := (Step.below HM1.out.nodup (below_drewN (Below.refl _ (w1.setCell ⟨ob, 0, none⟩ (.slice p1 (m0 + 1) k1))) 1)).trans HS9.out
              exact ⟨HOT.out.trans (others_chgV s10.chg fun j hj => HM1.out.cellsAt j hj), (s.1 ++ [a0], hpush (hpop s.2) (b1, s.2[0]!.2 + 1)), HMU.out _, f9, HM9.out, HSN.out.trans s10, HMER.out⟩
          · have h1mz : ¬ (1 : Int) < (m : Int) := by omega
            have hlen : ¬ 1 < (restL ls s.2[0]!.2).length := by
              have := congrArg List.length (gv_cons (HGD.out.at HH0.out))
              rw [List.length_cons] at this
              have := HMM.out
              omega
            have HMER := hidp (HP1.out hlen)
            clear hlen hoth hstn hbn hfn
            gi_wp2
            exact ⟨HOT.out, (s.1 ++ [a0], hpop s.2), HMU.out _, _, HM1.out, HSN.out, HMER.out⟩
      case done =>
        rintro D s W hD ⟨hz, mp, f, m, st⟩ hK
        obtain ⟨v, fq, h1, h2, h3, h4, rfl, hn⟩ := m
        have c1 : W.cell? ⟨ob, 0, none⟩ = some v := by simp [World.cell?, h1]
        have HOW := hidp h4
        have HST := hidp st
        have HK := hidp hK
        have HD := hidp (mp.done hz)
        clear h1 h2 h3 h4 hn hz mp st hK
        go_wp2
        refine ⟨by simp, .inl ⟨_, _, rfl, run_takeDeferred HK.out, ?_⟩⟩
        refine ⟨_, results_tmp rfl _ _ _, ?_⟩
        have hc : Chg (fun j => some j = some D) W (W.putObj D (.deferred none)) := Chg.of_grown (grownBy_putObj' W D _) fun k e => e.symm
        have hd : ∀ j ∈ v.ownBlock.toList, ¬ some j = some D := fun j hj e => by
          obtain ⟨o, e1, e2⟩ := own_cellsZ HOW.out j hj
          obtain rfl : j = D := Option.some.inj e
          rw [HK.out] at e1; cases e1; cases e2
        have hs : Step [ob, pb, qb] (ob :: pb :: (fq ++ v.ownBlock.toList)) W2 (W.putObj D (.deferred none)) := HST.out.side hc fun j e => by
          obtain rfl : j = D := Option.some.inj e
          exact Nat.le_trans HWB.out hD
        obtain ⟨hb', hf'⟩ := HBS.out _ _ hs
        exact ⟨v, s.1, rfl, own_kept HOW.out hc hd, fun j hj => hf' j (List.mem_cons_of_mem _ (List.mem_cons_of_mem _ (List.mem_append_right _ hj))), HD.out.1, HD.out.2, hb'⟩
#print axioms merged_any
end Go.Proofs.YtlaeaeciomkababDoor
