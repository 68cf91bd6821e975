/-
  Package stream: halve, remember, Put, Middle.
-/
import Derived.Test.YtcjfbenbdjlodabStA
namespace Go.Proofs.Ytcjfbenbdjlodab
open Go.RowKit Go.Sort Go.Proofs

set_option maxHeartbeats 8000000 in
set_option maxRecDepth 100000 in
theorem halve_any {w : World} {sb room qa qb : Nat} {ls : List Int} {lv : Value} {a b : Array (Int × Int)} {fa fb : List Nat} {c : Int} (h : SAq w sb room ls lv qa qb a b fa fb) (h1 : a.size ≤ 400) (h2 : b.size ≤ 400) :
    Calls Try.prog 19 #[.pointer (some ⟨sb, 0, none⟩), .int .i64 c] w fun e w' => e = .returned (.tuple #[]) ∧ ∃ fa' fb', SAq w' sb room ls lv qa qb (halve a b c).1 (halve a b c).2 fa' fb' ∧ Step (frm sb lv ++ (fa ++ fb)) (frm sb lv ++ (fa' ++ fb')) w w' := by
  obtain ⟨_, _, c2, c3⟩ := h.mem.cells
  have hfab := (List.nodup_append.1 h.nodup).2.1
  have C1 := hidp (qPushG (c := c) h.low (List.nodup_append.1 hfab).1 (by omega))
  have H := hidp h
  have HFAB := hidp hfab
  obtain ⟨a1, e1⟩ : ∃ x, x = hpush a (itmG c) := ⟨_, rfl⟩
  have s1 : a1.size = a.size + 1 := by rw [e1, hpush_size]
  obtain ⟨a2, e2⟩ : ∃ x, x = hpop a1 := ⟨_, rfl⟩
  have s2 : a2.size = a.size := by rw [e2, hpop_size, s1]; omega
  obtain ⟨b1, e3⟩ : ∃ x, x = overA a1 b := ⟨_, rfl⟩
  have s3 : b1.size = b.size + 1 := by rw [e3]; unfold overA; rw [hpush_size]
  have HH : Hid (halve a b c = if a2.size < b1.size then (overB b1 a2, hpop b1) else (a2, b1)) := by
    show _ = _
    unfold halve
    simp only
    rw [← e1, ← e2, ← e3]
  rw [← e1] at C1
  have E2 := hidp e2
  have E3 := hidp e3
  clear h hfab e1 e2 e3
  go_enter Try.func19, Try.ntmps19
  go_wp2_with fail
  refine C1.out.mono ?_
  rintro e w1 ⟨rfl, fa1, ka, t1⟩
  obtain ⟨k1, t2⟩ := H.out.step (t1.left HFAB.out H.out.high.lt) ka (H.out.high.kept t1.chg (apart_l HFAB.out))
  have K1 := hidp k1
  have T1 := hidp t2
  clear ka t1 k1 t2 c2 c3 C1 H HFAB
  obtain ⟨_, _, c2, c3⟩ := K1.out.mem.cells
  have C2 : Hid (∀ wx, SAq wx sb room ls lv qa qb a1 b fa1 fb → Calls Try.prog 30 #[.pointer (some ⟨qa, 0, none⟩), .pointer (some ⟨qb, 0, none⟩)] wx fun e w' => e = .returned (.tuple #[]) ∧ ∃ fa' fb', QAt w' qa 17 (numG a2) fa' ∧ QAt w' qb 18 (numL b1) fb' ∧ Step (fa1 ++ fb) (fa' ++ fb') wx w') := by
    intro wx q
    have := moveGL q.low q.high (List.nodup_append.1 q.nodup).2.1 (by omega) (by omega) (by omega)
    rw [← E2.out, ← E3.out] at this
    exact this
  go_wp2_with fail
  go_region_held3 (fun w' => w'.cell? ⟨sb, 2, none⟩ = some (.pointer (some ⟨qa, 0, none⟩)) ∧ w'.cell? ⟨sb, 3, none⟩ = some (.pointer (some ⟨qb, 0, none⟩))) (first | go_keep | (exact ⟨j2, j3⟩)) (first | (go_at_call 30; refine (C2.out _ (K1.out.kept (F := fun _ => False) ((Chg.refl _ _).dn 1) (fun _ _ q => q))).mono ?_; rintro e w2 ⟨rfl, fa2, fb2, ka, kb, t2'⟩; have t2 : Step (fa1 ++ fb) (fa2 ++ fb2) w1 w2 := t2'.undrawn; obtain ⟨k2, t3⟩ := K1.out.step t2 ka kb; obtain ⟨_, _, j2, j3⟩ := k2.mem.cells; have K2 := hidp k2; have T2 := hidp (T1.out.trans t3); clear t2' t2 ka kb k2 t3))
  all_goals
    clear c2 c3 K1 T1 C2
    have CA : Hid (∀ k, Calls Try.prog 31 #[.pointer (some ⟨qa, 0, none⟩)] (w2.drewN k) fun e w' => e = .returned (.int .i64 (a2.size : Nat)) ∧ w' = w2.drewN k) := by
      intro k
      have := qMany_any (w := w2.drewN k) (K2.out.low.kept (F := fun _ => False) ((Chg.refl _ _).dn k) (fun _ _ q => q))
      rw [numG_len] at this
      exact this
    have CB : Hid (∀ k, Calls Try.prog 31 #[.pointer (some ⟨qb, 0, none⟩)] (w2.drewN k) fun e w' => e = .returned (.int .i64 (b1.size : Nat)) ∧ w' = w2.drewN k) := by
      intro k
      have := qMany_any (w := w2.drewN k) (K2.out.high.kept (F := fun _ => False) ((Chg.refl _ _).dn k) (fun _ _ q => q))
      rw [numL_len] at this
      exact this
    by_cases hlt : a2.size < b1.size
    · have hz : (a2.size : Int) < (b1.size : Int) := by omega
      have hzd : decide ((a2.size : Int) < (b1.size : Int)) = true := decide_eq_true hz
      go_wp2_with fail
      go_quiet (first | (go_at_call 31; refine Calls.quiet_of_same (CA.out _)) | (go_at_call 31; refine Calls.quiet_of_same (CB.out _)))
      have K3 : Hid (SAq (w2.drewN nq) sb room ls lv qa qb a2 b1 fa2 fb2) := K2.out.kept (F := fun _ => False) ((Chg.refl _ _).dn nq) (fun _ _ q => q)
      have T3 : Hid (Step (frm sb lv ++ (fa ++ fb)) (frm sb lv ++ (fa2 ++ fb2)) w (w2.drewN nq)) := ⟨T2.out.nodup, T2.out.sub, T2.out.chg.dn nq⟩
      clear j2 j3 K2 T2 CA CB
      generalize w2.drewN nq = w3 at K3 T3 ⊢
      obtain ⟨_, _, c2, c3⟩ := K3.out.mem.cells
      have C3 : Hid (∀ wx, SAq wx sb room ls lv qa qb a2 b1 fa2 fb2 → Calls Try.prog 30 #[.pointer (some ⟨qb, 0, none⟩), .pointer (some ⟨qa, 0, none⟩)] wx fun e w' => e = .returned (.tuple #[]) ∧ ∃ fa' fb', QAt w' qa 17 (numG (overB b1 a2)) fa' ∧ QAt w' qb 18 (numL (hpop b1)) fb' ∧ Step (fa2 ++ fb2) (fa' ++ fb') wx w') := by
        intro wx q
        exact moveLG q.low q.high (List.nodup_append.1 q.nodup).2.1 (by omega) (by omega) (by omega)
      have HE : Hid (halve a b c = (overB b1 a2, hpop b1)) := by show _ = _; rw [HH.out, if_pos hlt]
      clear HH
      go_wp2_with fail
      go_region_held3 (fun w' => w'.cell? ⟨sb, 2, none⟩ = some (.pointer (some ⟨qa, 0, none⟩)) ∧ w'.cell? ⟨sb, 3, none⟩ = some (.pointer (some ⟨qb, 0, none⟩))) (first | go_keep | (exact ⟨j2, j3⟩)) (first | (go_at_call 30; refine (C3.out _ (K3.out.kept (F := fun _ => False) ((Chg.refl _ _).dn 1) (fun _ _ q => q))).mono ?_; rintro e w4 ⟨rfl, fa4, fb4, ka, kb, t4'⟩; have t4 : Step (fa2 ++ fb2) (fa4 ++ fb4) w3 w4 := t4'.undrawn; obtain ⟨k4, t5⟩ := K3.out.step t4 ka kb; obtain ⟨_, _, j2, j3⟩ := k4.mem.cells; have K4 := hidp k4; have T4 := hidp (T3.out.trans t5); clear t4' t4 ka kb k4 t5))
      all_goals
        go_wp2
        go_end0
        exact ⟨rfl, fa4, fb4, by rw [HE.out]; exact K4.out, T4.out⟩
    · have hz : ¬ ((a2.size : Int) < (b1.size : Int)) := by omega
      have hzd : decide ((a2.size : Int) < (b1.size : Int)) = false := decide_eq_false hz
      have HE : Hid (halve a b c = (a2, b1)) := by show _ = _; rw [HH.out, if_neg hlt]
      clear HH
      go_wp2_with fail
      go_quiet (first | (go_at_call 31; refine Calls.quiet_of_same (CA.out _)) | (go_at_call 31; refine Calls.quiet_of_same (CB.out _)))
      go_wp2
      go_end0
      exact ⟨rfl, fa2, fb2, by rw [HE.out]; exact K2.out.kept (F := fun _ => False) ((Chg.refl _ _).dn _) (fun _ _ q => q), T2.out.nodup, T2.out.sub, T2.out.chg.dn _⟩
#print axioms halve_any
end Go.Proofs.Ytcjfbenbdjlodab
