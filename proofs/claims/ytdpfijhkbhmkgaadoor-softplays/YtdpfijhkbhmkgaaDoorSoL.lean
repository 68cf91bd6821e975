/-
  Package soft's Push: what its loop keeps.
-/
import Derived.Test.YtdpfijhkbhmkgaaDoorSoK
namespace Go.Proofs.YtdpfijhkbhmkgaaDoor
open Go.RowKit Go.Sort Go.Proofs Go.Lib

/-- A tree that is to be joined with those trees. -/
structure JoinG (r0 n : Nat) (c : SN) (ts : List SN) : Prop where
  good : c.good r0
  some : c.none? = false
  low : ∀ t ∈ ts, c.rank ≤ t.rank
  all : ∀ t ∈ ts, t.good r0 ∧ t.none? = false
  rise : ts.Pairwise (fun a b => a.rank < b.rank)
  room : 2 ^ c.rank + roomS ts ≤ n
  many : (c.all ++ allS ts).length ≤ n
theorem JoinG.next {r0 n : Nat} {c t : SN} {ts : List SN} (h : JoinG r0 n c (t :: ts)) (e : t.rank = c.rank) : JoinG r0 n (fillS (.node 0 (t.rank + 1) (wantR r0 (t.rank + 1)) [] t c)) ts := by
  have hp2 := List.pairwise_cons.1 h.rise
  have ht := h.all t List.mem_cons_self
  obtain ⟨i1, i2, i3, i4, _⟩ := fillS_good r0 _ 0 (t.rank + 1) (wantR r0 (t.rank + 1)) [] t c (Nat.le_refl _) (open_two ht.1 h.good e) (Or.inr (Or.inl ht.2))
  refine ⟨i1, i4, fun u hu => by rw [i3]; exact hp2.1 u hu, fun u hu => h.all u (List.mem_cons_of_mem _ hu), hp2.2, ?_, ?_⟩
  · have hr := h.room
    rw [roomS_cons, e] at hr
    rw [i3, e, Nat.pow_succ]
    omega
  · have hm := h.many
    have := i2.length_eq
    rw [allS_cons] at hm
    simp only [List.length_append, List.length_nil] at hm this ⊢
    omega
theorem wantR_pow (r0 : Nat) : ∀ r, wantR r0 r ≤ 2 ^ r
  | 0 => Nat.le_refl _
  | r + 1 => by
    simp only [wantR]
    have h1 := wantR_pow r0 r
    have h2 := wantR_pos r0 r
    have h3 : 2 ^ (r + 1) = 2 ^ r + 2 ^ r := by rw [Nat.pow_succ]; omega
    split <;> omega
theorem JoinG.small {r0 n : Nat} {c t : SN} {ts : List SN} (h : JoinG r0 n c (t :: ts)) (hn : n ≤ 1000) : (t.all ++ c.all).length ≤ 1000 ∧ 2 ^ t.rank ≤ 1000 := by
  have h1 := h.many
  have h2 := h.room
  rw [allS_cons] at h1
  rw [roomS_cons] at h2
  simp only [List.length_append] at h1 ⊢
  have h3 := Nat.two_pow_pos c.rank
  constructor <;> omega
/-- What Push's loop keeps. -/
def PushI (r0 n : Nat) (T : List SN) (hb : Nat) (f : List Nat) (w : World) (N g : Nat) (v : Value) (wr : World) : Prop :=
  ∃ c ts fc fh, NdAt wr c v fc ∧ HAt wr hb r0 n ts fh ∧ Step f (fc ++ fh) w wr ∧ joinS r0 c ts = T ∧ JoinG r0 n c ts ∧ ts.length ≤ g ∧ g ≤ N
theorem nodup_perm {a b : List Nat} (h : a.Nodup) (p : a.Perm b) : b.Nodup := p.nodup_iff.1 h
theorem dj_of {a b : List Nat} (h : (a ++ b).Nodup) : ∀ j ∈ a, j ∉ b := fun j z1 z2 => (List.nodup_append.1 h).2.2 j z1 j z2 rfl
/-- The last of Push: the tree is put ahead of the others. -/
theorem push_end {w wr W1 w2 : World} {hb r0 n : Nat} {c : SN} {ts : List SN} {q : Option Addr} {tv tv' : Value} {ps : List (Option Addr)} {f fc fh fn : List Nat} (hC : NdAt wr c (.pointer q) fc) (hH : HB wr hb r0 n tv) (hTs : TsAt wr ts ps fn) (hp : fh.Perm (hb :: (tv.ownBlock.toList ++ fn))) (hS : Step f (fc ++ fh) w wr) (hB : Below wr.heap.size wr W1) (hI : InsP W1 0 tv q ps w2 tv') :
    HB w2 hb r0 n tv ∧ ∃ f', HAt (w2.setCell ⟨hb, 2, none⟩ tv') hb r0 n (c :: ts) f' ∧ Step f f' w (w2.setCell ⟨hb, 2, none⟩ tv') := by
  obtain ⟨i1, i2, i3⟩ := hI
  have p0 : (fc ++ fh).Perm (tv.ownBlock.toList ++ (hb :: (fc ++ fn))) := by
    rw [List.perm_iff_count]
    intro a
    have := hp.count_eq a
    simp only [List.count_append, List.count_cons] at this ⊢
    omega
  have n0 := nodup_perm hS.nodup p0
  have c1 : Chg (fun j => j ∈ tv.ownBlock.toList) W1 w2 := Chg.of_grown i2 (fun k e => by simp [e])
  have hlt : ∀ j ∈ hb :: (fc ++ fn), j < W1.heap.size := by
    intro j z
    have := hB.size
    rcases List.mem_cons.1 z with rfl | z
    · have := hH.lt; omega
    · rcases List.mem_append.1 z with z | z
      · have := hC.lt z; omega
      · have := hTs.lt j z; omega
  have s1 : Step f (tv.ownBlock.toList ++ (hb :: (fc ++ fn))) w W1 := (hS.perm (List.Perm.refl _) p0).trans (Step.below n0 hB)
  have s2 := s1.trans (Step.row n0 hlt c1 i3)
  have c2 : Chg (· ∈ [hb]) w2 (w2.setCell ⟨hb, 2, none⟩ tv') := (Chg.refl _ w2).setCell (p := ⟨hb, 2, none⟩) (Or.inl (by simp)) tv'
  have s3 := s2.trans (Step.inside (o := [hb]) s2.nodup c2 (fun j z => by rw [List.mem_singleton.1 z]; exact List.mem_append_right _ List.mem_cons_self))
  have d0 := dj_of n0
  have hb2 : HB w2 hb r0 n tv := (hH.kept (hB.block hb hH.lt)).kept (c1.block hb (by have := hH.lt; have := hB.size; omega) (fun z => d0 hb z List.mem_cons_self))
  have nb : hb ∉ fc ++ fn := (List.nodup_cons.1 (List.nodup_append.1 n0).2.1).1
  have k1 : NdAt (w2.setCell ⟨hb, 2, none⟩ tv') c (.pointer q) fc := ((hC.below hB).kept c1 (fun j z z2 => d0 j z2 (List.mem_cons_of_mem _ (List.mem_append_left _ z)))).kept c2 (fun j z z2 => nb (by rw [← List.mem_singleton.1 z2]; exact List.mem_append_left _ z))
  have k2 : TsAt (w2.setCell ⟨hb, 2, none⟩ tv') ts ps fn := TsAt.kept c2 (fun j z z2 => nb (by rw [← List.mem_singleton.1 z2]; exact List.mem_append_right _ z)) (TsAt.kept c1 (fun j z z2 => d0 j z2 (List.mem_cons_of_mem _ (List.mem_append_right _ z))) (TsAt.kept (F := fun _ => False) (Chg.of_below hB) (fun _ _ q => q) hTs))
  have k3 : OwnE EP (w2.setCell ⟨hb, 2, none⟩ tv') 0 tv' (q :: ps) := own_kept i1 c2 (fun j z z2 => dj_of s2.nodup j z (by rw [List.mem_singleton.1 z2]; exact List.mem_cons_self))
  refine ⟨hb2, _, ⟨tv', q :: ps, fc ++ fn, hb2.put2 tv', k3, ⟨q, ps, fc, fn, rfl, k1, k2, List.Perm.refl _⟩, ?_⟩, s3⟩
  rw [List.perm_iff_count]
  intro a
  simp only [List.count_append, List.count_cons]
  omega
/-- A round of Push. -/
theorem push_round {w wr w2 : World} {hb r0 n g cap L : Nat} {c' : SN} {ts : List SN} {p : Option Addr} {v' : Value} {ps : List (Option Addr)} {f fc fh ft fn f1 : List Nat}
    (hH : HB wr hb r0 n (.slice (some ⟨g, 0, none⟩) L cap)) (hO : OwnE EP wr 0 (.slice (some ⟨g, 0, none⟩) L cap) (p :: ps)) (hTs : TsAt wr ts ps fn) (hp : fh.Perm (hb :: ([g] ++ (ft ++ fn)))) (hS : Step f (fc ++ fh) w wr) (hJ : Step (ft ++ fc) f1 wr w2) (hC' : NdAt w2 c' v' f1) :
    HB w2 hb r0 n (.slice (some ⟨g, 0, none⟩) L cap) ∧ OwnE EP w2 0 (.slice (some ⟨g, 0, none⟩) L cap) (p :: ps) ∧ (∀ (w3 : World) (tv' : Value), w2.grownBy w3 (some g) → OwnE EP w3 0 (.slice (some ⟨g, 0, none⟩) (L - 1) cap) ps → tv' = .slice (some ⟨g, 0, none⟩) (L - 1) cap →
      HB w3 hb r0 n (.slice (some ⟨g, 0, none⟩) L cap) ∧ NdAt (w3.setCell ⟨hb, 2, none⟩ tv') c' v' f1 ∧ ∃ fh', HAt (w3.setCell ⟨hb, 2, none⟩ tv') hb r0 n ts fh' ∧ Step f (f1 ++ fh') w (w3.setCell ⟨hb, 2, none⟩ tv')) := by
  have p0 : (fc ++ fh).Perm ((ft ++ fc) ++ (hb :: ([g] ++ fn))) := by
    rw [List.perm_iff_count]
    intro a
    have := hp.count_eq a
    simp only [List.count_append, List.count_cons] at this ⊢
    omega
  have n0 := nodup_perm hS.nodup p0
  have hlt : ∀ j ∈ hb :: ([g] ++ fn), j < wr.heap.size := by
    intro j z
    rcases List.mem_cons.1 z with rfl | z
    · exact hH.lt
    · rcases List.mem_append.1 z with z | z
      · exact own_lt hO j (by simpa [Value.ownBlock] using z)
      · exact hTs.lt j z
  have s1 : Step f (f1 ++ (hb :: ([g] ++ fn))) w w2 := (hS.perm (List.Perm.refl _) p0).trans (hJ.more n0 hlt)
  have d0 := dj_of n0
  have hb2 : HB w2 hb r0 n (.slice (some ⟨g, 0, none⟩) L cap) := hH.kept (hJ.chg.block hb hH.lt (fun z => d0 hb z List.mem_cons_self))
  have ho2 : OwnE EP w2 0 (.slice (some ⟨g, 0, none⟩) L cap) (p :: ps) := own_kept hO hJ.chg (fun j z z2 => d0 j z2 (by simp [Value.ownBlock] at z; simp [z]))
  refine ⟨hb2, ho2, ?_⟩
  rintro w3 tv' hg ho3 rfl
  have ht2 : TsAt w2 ts ps fn := TsAt.kept hJ.chg (fun j z z2 => d0 j z2 (List.mem_cons_of_mem _ (List.mem_append_right _ z))) hTs
  have c1 : Chg (· ∈ [g]) w2 w3 := Chg.of_grown hg (fun k e => by simpa using e.symm)
  have d1 := dj_of s1.nodup
  have n1 := (List.nodup_append.1 s1.nodup).2.1
  have nb := (List.nodup_cons.1 n1).1
  have ng : g ∉ fn := by have := (List.nodup_cons.1 n1).2; simpa using (List.nodup_cons.1 this).1
  have hgb : hb ≠ g := fun e => nb (by simp [e])
  have c2 : Chg (· ∈ [hb]) w3 (w3.setCell ⟨hb, 2, none⟩ (.slice (some ⟨g, 0, none⟩) (L - 1) cap)) := (Chg.refl _ w3).setCell (p := ⟨hb, 2, none⟩) (Or.inl (by simp)) _
  have s2 := s1.trans (Step.inside (o := [g]) s1.nodup c1 (fun j z => by rw [List.mem_singleton.1 z]; exact List.mem_append_right _ (by simp)))
  have s3 := s2.trans (Step.inside (o := [hb]) s2.nodup c2 (fun j z => by rw [List.mem_singleton.1 z]; exact List.mem_append_right _ List.mem_cons_self))
  have hb3 : HB w3 hb r0 n (.slice (some ⟨g, 0, none⟩) L cap) := hb2.kept (c1.block hb hb2.lt (by simpa using hgb))
  refine ⟨hb3, ?_, _, ⟨_, ps, fn, hb3.put2 _, own_kept ho3 c2 (fun j z z2 => ?_), TsAt.kept c2 (fun j z z2 => ?_) (TsAt.kept c1 (fun j z z2 => ?_) ht2), List.Perm.refl _⟩, s3⟩
  · refine (hC'.kept c1 (fun j z z2 => d1 j z ?_)).kept c2 (fun j z z2 => d1 j z ?_)
    · rw [List.mem_singleton.1 z2]; simp
    · rw [List.mem_singleton.1 z2]; simp
  · simp [Value.ownBlock] at z
    exact hgb ((List.mem_singleton.1 z2).symm.trans z)
  · exact nb (by rw [← List.mem_singleton.1 z2]; simp [z])
  · exact ng (by rw [← List.mem_singleton.1 z2]; exact z)
end Go.Proofs.YtdpfijhkbhmkgaaDoor
