/-
  Texts joined, in build order, each with its own comment and its own conditions: W16Run, W15In, W16Piece, W15Layer.
-/
import Derived.Test.YtehdnbidgphecaaGreatDoorJ04
import Derived.Test.YtehdnbidgphecaaGreatDoorJ02
import Derived.Test.YtehdnbidgphecaaGreatDoorJ03
/-
  Layer 16 (match), plain mathematics: a text gone through once, place by place, with the marks of each place; which ends that tells of. No condition but those that each theorem bears.
-/
namespace Go.Proofs.YtehdnbidgphecaaGreatDoor.M16
open Go Go.Proofs.YtehdnbidgphecaaGreatDoor.M15

/-- on behind a byte from one mark -/
def adv (L : List Inst) (s : Text) (q : Nat) (nx : List Mark) (m : Mark) : List Mark :=
  match s[q]? with
  | some c => if takes (ins L m.1) c then goOn L s.length (q + 1) nx ((ins L m.1).x.toNat, m.2) else nx
  | none => nx
def past (e : Option Nat) (m : Mark) : Bool := match e with
  | some b => decide (b < m.2)
  | none => false
/-- the marks of one place: the least place at which it was begun to end here, and the marks of the next one -/
def scan (L : List Inst) (s : Text) (q : Nat) : List Mark → Option Nat → List Mark → Option Nat × List Mark
  | [], e, nx => (e, nx)
  | m :: r, e, nx => if past e m then (e, nx) else if (ins L m.1).kind = 7 then scan L s q r (some m.2) nx else scan L s q r e (adv L s q nx m)
/-- the marks of a place, with a new one -/
def entered (L : List Inst) (s : Text) (q u : Nat) (now : List Mark) : List Mark := if q ≤ u then goOn L s.length q now (0, q) else now
/-- from a place on: where it was begun, and where it ends -/
def run (L : List Inst) (s : Text) : Nat → Nat → Nat → List Mark → List Mark
  | 0, _, _, _ => []
  | f + 1, q, u, now => if q ≤ u ∨ now ≠ [] then
      match scan L s q (entered L s q u now) none [] with
      | (some b, nx) => (b, q) :: run L s f (q + 1) q nx
      | (none, nx) => run L s f (q + 1) u nx
    else []
def yields (L : List Inst) (s : Text) (first last : Nat) : List Mark := if rightP L then run L s (s.length + 1 - first) first last [] else []

theorem match_takes (x : Inst) (c : UInt8) (h : x.kind = 7) : takes x c = false := by
  unfold takes
  rw [if_neg (by omega), if_neg (by omega), if_neg (by omega)]
section
variable {L : List Inst} {s : Text} {q b n : Nat}
theorem scan_some (b : Nat) : ∀ (l : List Mark) (nx : List Mark), (l.Pairwise fun x y => x.2 ≤ y.2) → (∀ x ∈ l, b ≤ x.2) → scan L s q l (some b) nx = (some b, (l.filter fun x => decide (x.2 ≤ b)).foldl (adv L s q) nx)
  | [], nx, _, _ => rfl
  | m :: r, nx, hp, hb => by
    have hp2 := List.pairwise_cons.1 hp
    rw [scan]
    by_cases h : b < m.2
    · rw [if_pos (by simp [past, h])]
      have : (m :: r).filter (fun x => decide (x.2 ≤ b)) = [] := by
        rw [List.filter_eq_nil_iff]
        intro x hx
        simp only [decide_eq_true_eq]
        rcases List.mem_cons.1 hx with rfl | hx
        · omega
        · have := hp2.1 x hx; omega
      rw [this]; rfl
    · rw [if_neg (by simp [past, h])]
      have hm := hb m (by simp)
      have he : m.2 = b := by omega
      rw [List.filter_cons_of_pos (by simp; omega)]
      by_cases h7 : (ins L m.1).kind = 7
      · rw [if_pos h7, he, scan_some b r nx hp2.2 (fun x hx => hb x (by simp [hx])), List.foldl_cons]
        have : adv L s q nx m = nx := by
          unfold adv
          cases s[q]? with
          | none => rfl
          | some c => simp [match_takes _ c h7]
        rw [this]
      · rw [if_neg h7, scan_some b r _ hp2.2 (fun x hx => hb x (by simp [hx])), List.foldl_cons]
/-- what one place comes to: all marks, or those that were begun no later than what ends here -/
theorem scan_is : ∀ (l : List Mark) (nx : List Mark), (l.Pairwise fun x y => x.2 ≤ y.2) →
    ((∀ x ∈ l, (ins L x.1).kind ≠ 7) ∧ scan L s q l none nx = (none, l.foldl (adv L s q) nx)) ∨
    (∃ x ∈ l, (ins L x.1).kind = 7 ∧ (∀ y ∈ l, (ins L y.1).kind = 7 → x.2 ≤ y.2) ∧ scan L s q l none nx = (some x.2, (l.filter fun y => decide (y.2 ≤ x.2)).foldl (adv L s q) nx))
  | [], nx, _ => Or.inl ⟨by simp, rfl⟩
  | m :: r, nx, hp => by
    have hp2 := List.pairwise_cons.1 hp
    have hsc : scan L s q (m :: r) none nx = if (ins L m.1).kind = 7 then scan L s q r (some m.2) nx else scan L s q r none (adv L s q nx m) := by
      rw [scan, if_neg (by simp [past])]
    by_cases h7 : (ins L m.1).kind = 7
    · right
      refine ⟨m, by simp, h7, fun y hy _ => ?_, ?_⟩
      · rcases List.mem_cons.1 hy with rfl | hy
        · exact Nat.le_refl _
        · exact hp2.1 y hy
      · rw [hsc, if_pos h7, scan_some m.2 r nx hp2.2 hp2.1, List.filter_cons_of_pos (by simp), List.foldl_cons]
        have : adv L s q nx m = nx := by
          unfold adv
          cases s[q]? with
          | none => rfl
          | some c => simp [match_takes _ c h7]
        rw [this]
    · rcases scan_is r (adv L s q nx m) hp2.2 with ⟨h1, h2⟩ | ⟨x, hx, hx7, h1, h2⟩
      · left
        refine ⟨fun y hy => ?_, by rw [hsc, if_neg h7, h2]; rfl⟩
        rcases List.mem_cons.1 hy with rfl | hy
        · exact h7
        · exact h1 y hy
      · right
        refine ⟨x, by simp [hx], hx7, fun y hy hy7 => ?_, ?_⟩
        · rcases List.mem_cons.1 hy with rfl | hy
          · exact absurd hy7 h7
          · exact h1 y hy hy7
        · rw [hsc, if_neg h7, h2, List.filter_cons_of_pos (by simp [hp2.1 x hx]), List.foldl_cons]
/-- what the marks of the next place are -/
structure Adv (L : List Inst) (s : Text) (q : Nat) (l nx nx' : List Mark) : Prop where
  pre : nx <+: nx'
  row : Row L s.length (q + 1) nx'
  from_ : ∀ x ∈ nx', x ∈ nx ∨ ∃ y ∈ l, ∃ c, s[q]? = some c ∧ takes (ins L y.1) c = true ∧ x.2 = y.2 ∧ ER L s.length (q + 1) (ins L y.1).x.toNat x.1
  all : ∀ y ∈ l, ∀ c, s[q]? = some c → takes (ins L y.1) c = true → ∀ j, ER L s.length (q + 1) (ins L y.1).x.toNat j → ∃ x ∈ nx', x.1 = j ∧ x.2 ≤ y.2
theorem advs (hf : Fair L) : ∀ (l nx : List Mark), (l.Pairwise fun x y => x.2 ≤ y.2) → Row L s.length (q + 1) nx → (∀ x ∈ nx, ∀ y ∈ l, x.2 ≤ y.2) → Adv L s q l nx (l.foldl (adv L s q) nx)
  | [], nx, _, hr, _ => ⟨List.prefix_refl _, hr, fun x hx => Or.inl hx, by simp⟩
  | m :: r, nx, hp, hr, hb => by
    have hp2 := List.pairwise_cons.1 hp
    rw [List.foldl_cons]
    have one : Adv L s q [m] nx (adv L s q nx m) ∧ ∀ x ∈ adv L s q nx m, ∀ y ∈ r, x.2 ≤ y.2 := by
      have hnx : ∀ x ∈ nx, ∀ y ∈ r, x.2 ≤ y.2 := fun x hx y hy => hb x hx y (by simp [hy])
      unfold adv
      cases hc : s[q]? with
      | none => exact ⟨⟨List.prefix_refl _, hr, fun x hx => Or.inl hx, fun y _ c h => by rw [hc] at h; cases h⟩, hnx⟩
      | some c =>
        by_cases ht : takes (ins L m.1) c = true
        · have hw := goOn_went (n := s.length) (q := q + 1) (m := ((ins L m.1).x.toNat, m.2)) hf hr (hf.byte_ _ _ ht) (fun x hx => hb x hx m (by simp))
          simp only [ht, if_true]
          generalize goOn L s.length (q + 1) nx ((ins L m.1).x.toNat, m.2) = R at hw
          refine ⟨⟨hw.pre, hw.row, fun x hx => ?_, fun y hy c' hc' _ j hj => ?_⟩, fun x hx y hy => ?_⟩
          · rcases hw.from_ x hx with h1 | ⟨h1, h2⟩
            · exact Or.inl h1
            · exact Or.inr ⟨m, by simp, c, hc, ht, h1, h2⟩
          · simp at hy
            subst hy
            exact hw.all j hj
          · rcases hw.from_ x hx with h1 | ⟨h1, h2⟩
            · exact hnx x h1 y hy
            · rw [h1]; exact hp2.1 y hy
        · have ht2 : takes (ins L m.1) c = false := by simpa using ht
          simp only [ht2]
          exact ⟨⟨List.prefix_refl _, hr, fun x hx => Or.inl hx, fun y hy c' hc' h => by
            rw [hc] at hc'
            cases hc'
            simp at hy
            subst hy
            rw [ht2] at h; cases h⟩, hnx⟩
    obtain ⟨h1, h2⟩ := one
    have h3 := advs hf r (adv L s q nx m) hp2.2 h1.row h2
    refine ⟨h1.pre.trans h3.pre, h3.row, fun x hx => ?_, fun y hy c hc ht j hj => ?_⟩
    · rcases h3.from_ x hx with h4 | ⟨y, hy, h4⟩
      · rcases h1.from_ x h4 with h5 | ⟨y, hy, h5⟩
        · exact Or.inl h5
        · simp at hy
          subst hy
          exact Or.inr ⟨y, by simp, h5⟩
      · exact Or.inr ⟨y, by simp [hy], h4⟩
    · rcases List.mem_cons.1 hy with rfl | hy
      · obtain ⟨x, hx, e1, e2⟩ := h1.all y (by simp) c hc ht j hj
        exact ⟨x, h3.pre.subset hx, e1, e2⟩
      · exact h3.all y hy c hc ht j hj
/-- what the marks are ahead of a place: begun from first to bd, and before this place -/
structure Marks (L : List Inst) (s : Text) (first bd q : Nat) (M : List Mark) : Prop where
  row : Row L s.length q M
  real : ∀ x ∈ M, first ≤ x.2 ∧ x.2 ≤ bd ∧ x.2 < q ∧ Reach L s x.2 x.1 q
  all : ∀ b i, first ≤ b → b ≤ bd → b < q → Reach L s b i q → ∃ x ∈ M, x.1 = i ∧ x.2 ≤ b
/-- and at it -/
structure Here (L : List Inst) (s : Text) (first bd q : Nat) (M : List Mark) : Prop where
  row : Row L s.length q M
  real : ∀ x ∈ M, first ≤ x.2 ∧ x.2 ≤ bd ∧ x.2 ≤ q ∧ Reach L s x.2 x.1 q
  all : ∀ b i, first ≤ b → b ≤ bd → Reach L s b i q → ∃ x ∈ M, x.1 = i ∧ x.2 ≤ b
variable {first bd u : Nat} {M now : List Mark}
theorem Marks.here (hf : Fair L) (h : Marks L s first bd q M) (hq : first ≤ q) (hu : bd ≤ u) (hu2 : q ≤ u → q ≤ bd) : Here L s first bd q (entered L s q u M) := by
  unfold entered
  split
  · rename_i hqu
    have hw := goOn_went (n := s.length) (q := q) (m := (0, q)) hf h.row hf.some_ (fun x hx => by have := (h.real x hx).2.2.1; show x.2 ≤ q; omega)
    generalize goOn L s.length q M (0, q) = R at hw
    refine ⟨hw.row, fun x hx => ?_, fun b i h1 h2 h3 => ?_⟩
    · rcases hw.from_ x hx with h1 | ⟨h1, h2⟩
      · have := h.real x h1; exact ⟨this.1, this.2.1, by omega, this.2.2.2⟩
      · simp only at h1 h2
        rw [h1]
        exact ⟨hq, hu2 hqu, Nat.le_refl _, Reach.start.er h2⟩
    · rcases Nat.lt_or_ge b q with hlt | hge
      · obtain ⟨x, hx, e1, e2⟩ := h.all b i h1 h2 hlt h3
        exact ⟨x, hw.pre.subset hx, e1, e2⟩
      · have hbq : b = q := Nat.le_antisymm h3.le hge
        subst hbq
        rcases h3.cases with ⟨-, e⟩ | ⟨q0, i0, c, hq0, h4, -⟩
        · exact hw.all i e
        · have := h4.le; omega
  · rename_i hqu
    refine ⟨h.row, fun x hx => ?_, fun b i h1 h2 h3 => h.all b i h1 h2 (by omega) h3⟩
    have := h.real x hx
    exact ⟨this.1, this.2.1, by omega, this.2.2.2⟩
theorem Here.next (hf : Fair L) (h : Here L s first bd q M) (bd' : Nat) (hb : bd' ≤ bd) (hfull : bd' = bd ∨ bd' ≤ q) : Marks L s first bd' (q + 1) ((M.filter fun y => decide (y.2 ≤ bd')).foldl (adv L s q) []) := by
  have ha := advs (s := s) (q := q) hf (M.filter fun y => decide (y.2 ≤ bd')) [] (h.row.rise.filter _) (Row.nil _ _ _) (by simp)
  generalize (M.filter fun y => decide (y.2 ≤ bd')).foldl (adv L s q) [] = R at ha
  refine ⟨ha.row, fun x hx => ?_, fun b i h1 h2 h3 h4 => ?_⟩
  · rcases ha.from_ x hx with h1 | ⟨y, hy, c, h1, h2, h3, h4⟩
    · simp at h1
    · obtain ⟨hy1, hy2⟩ := List.mem_filter.1 hy
      simp only [decide_eq_true_eq] at hy2
      obtain ⟨r1, r2, r3, r4⟩ := h.real y hy1
      rw [h3]
      exact ⟨r1, hy2, by omega, (r4.byte h1 h2).er h4⟩
  · rcases h4.cases with ⟨e, -⟩ | ⟨q0, i0, c, e, h5, h6, h7, h8⟩
    · omega
    · have : q0 = q := by omega
      subst this
      obtain ⟨y, hy, e1, e2⟩ := h.all b i0 h1 (by omega) h5
      subst e1
      obtain ⟨x, hx, e3, e4⟩ := ha.all y (List.mem_filter.2 ⟨hy, by simp; omega⟩) c h6 h7 i h8
      exact ⟨x, hx, e3, by omega⟩
theorem filter_all {l : List Mark} {bd : Nat} (h : ∀ x ∈ l, x.2 ≤ bd) : l.filter (fun y => decide (y.2 ≤ bd)) = l := by
  rw [List.filter_eq_self]
  intro x hx
  simpa using h x hx
/-- what a run tells -/
structure Tells (L : List Inst) (s : Text) (first bd q : Nat) (Y : List Mark) : Prop where
  real : ∀ y ∈ Y, q ≤ y.2 ∧ first ≤ y.1 ∧ y.1 ≤ bd ∧ EndsAt L s y.1 y.2
  all : ∀ b t, first ≤ b → b ≤ bd → q ≤ t → EndsAt L s b t → ∃ y ∈ Y, y.1 ≤ b ∧ (y.2 = t ∨ (y.1 < b ∧ y.2 < t))
  rise : Y.Pairwise fun x y => x.2 < y.2 ∧ y.1 ≤ x.1
theorem run_tells (hf : Fair L) : ∀ (f q bd u : Nat) (now : List Mark), Marks L s first bd q now → first ≤ q → bd ≤ u → (u = bd ∨ u < q) → bd ≤ s.length → s.length + 1 ≤ q + f → Tells L s first bd q (run L s f q u now)
  | 0, q, bd, u, now, _, _, _, _, hbs, hl => by
    refine ⟨by simp [run], fun b t h1 h2 h3 h4 => ?_, .nil⟩
    obtain ⟨i, -, hr⟩ := h4
    have := hr.in_ (by omega)
    omega
  | f + 1, q, bd, u, now, hm, hq, hu, hu2, hbs, hl => by
    unfold run
    split
    · have hh := hm.here hf hq hu (fun h => by omega)
      generalize entered L s q u now = M at hh
      rcases scan_is (L := L) (s := s) (q := q) M [] hh.row.rise with ⟨h1, h2⟩ | ⟨x, hx, hx7, h1, h2⟩
      · rw [h2]
        simp only
        have hn := hh.next hf bd (Nat.le_refl _) (Or.inl rfl)
        rw [filter_all (fun x hx => (hh.real x hx).2.1)] at hn
        have ih := run_tells hf f (q + 1) bd u _ hn (by omega) hu (by omega) hbs (by omega)
        refine ⟨fun y hy => ?_, fun b t h3 h4 h5 h6 => ?_, ih.rise⟩
        · obtain ⟨i1, i2⟩ := ih.real y hy
          exact ⟨by omega, i2⟩
        · by_cases htq : t = q
          · subst htq
            obtain ⟨i, hi7, hi⟩ := h6
            obtain ⟨y, hy, rfl, e2⟩ := hh.all b i h3 h4 hi
            exact absurd hi7 (h1 y hy)
          · exact ih.all b t h3 h4 (by omega) h6
      · rw [h2]
        simp only
        obtain ⟨r1, r2, r3, r4⟩ := hh.real x hx
        have hn := hh.next hf x.2 r2 (Or.inr r3)
        have ih := run_tells hf f (q + 1) x.2 q _ hn (by omega) r3 (Or.inr (by omega)) (by omega) (by omega)
        refine ⟨fun y hy => ?_, fun b t h3 h4 h5 h6 => ?_, List.pairwise_cons.2 ⟨fun y hy => ?_, ih.rise⟩⟩
        · rcases List.mem_cons.1 hy with rfl | hy
          · exact ⟨Nat.le_refl _, r1, r2, x.1, hx7, r4⟩
          · obtain ⟨i1, i2, i3, i4⟩ := ih.real y hy
            exact ⟨by omega, i2, by omega, i4⟩
        · by_cases htq : t = q
          · subst htq
            obtain ⟨i, hi7, hi⟩ := h6
            obtain ⟨y, hy, rfl, e2⟩ := hh.all b i h3 h4 hi
            have := h1 y hy hi7
            exact ⟨(x.2, t), by simp, by show x.2 ≤ b; omega, Or.inl rfl⟩
          · by_cases hbx : b ≤ x.2
            · obtain ⟨y, hy, e1, e2⟩ := ih.all b t h3 hbx (by omega) h6
              exact ⟨y, by simp [hy], e1, e2⟩
            · exact ⟨(x.2, q), by simp, by show x.2 ≤ b; omega, Or.inr ⟨by show x.2 < b; omega, by show q < t; omega⟩⟩
        · obtain ⟨i1, i2, i3, i4⟩ := ih.real y hy
          exact ⟨by show q < y.2; omega, i3⟩
    · rename_i hc
      refine ⟨by simp, fun b t h1 h2 h3 h4 => ?_, .nil⟩
      exfalso
      apply hc
      obtain ⟨i, -, hr⟩ := h4
      by_cases hbq : b < q
      · obtain ⟨j, hj⟩ := hr.mid q (by omega) h3
        obtain ⟨x, hx, -⟩ := hm.all b j h1 h2 hbq hj
        exact Or.inr (fun e => by rw [e] at hx; simp at hx)
      · exact Or.inl (by omega)
theorem marks_start (L : List Inst) (s : Text) (first bd : Nat) : Marks L s first bd first [] :=
  ⟨Row.nil _ _ _, by simp, fun b i h1 _ h2 _ => by omega⟩
theorem yields_tells (hf : Fair L) (hr : rightP L = true) {last : Nat} (h1 : first ≤ last) (h2 : last ≤ s.length) : Tells L s first last first (yields L s first last) := by
  unfold yields
  rw [if_pos hr]
  exact run_tells hf _ first last last [] (marks_start L s first last) (Nat.le_refl _) (Nat.le_refl _) (Or.inl rfl) h2 (by omega)
/-- begun at one place alone: where it ends, rising -/
theorem yields_one (hf : Fair L) (hr : rightP L = true) {b : Nat} (hb : b ≤ s.length) : ((yields L s b b).map Prod.snd).Pairwise (fun x y => x < y) ∧ ∀ t, t ∈ (yields L s b b).map Prod.snd ↔ EndsAt L s b t := by
  have h := yields_tells hf hr (Nat.le_refl b) hb
  refine ⟨List.pairwise_map.2 (h.rise.imp fun h => h.1), fun t => ⟨fun ht => ?_, fun ht => ?_⟩⟩
  · obtain ⟨y, hy, rfl⟩ := List.mem_map.1 ht
    obtain ⟨r1, r2, r3, r4⟩ := h.real y hy
    have : y.1 = b := by omega
    rw [this] at r4
    exact r4
  · obtain ⟨i, -, hi⟩ := id ht
    obtain ⟨y, hy, e1, e2⟩ := h.all b t (Nat.le_refl _) (Nat.le_refl _) hi.le ht
    have := (h.real y hy).2.1
    exact List.mem_map.2 ⟨y, hy, by omega⟩
end
/-! programs that may be -/
theorem okI_x {x : Inst} {m : Nat} (h : okI m x = true) (hk : x.kind ≠ 7) : 0 ≤ x.x ∧ x.x < m ∧ 1 ≤ x.kind ∧ x.kind ≤ 8 ∧ (x.kind = 6 → 0 ≤ x.y ∧ x.y < m) := by
  unfold okI at h
  rw [Bool.and_eq_true] at h
  have h2 := h.2
  unfold goes at h2
  by_cases h6 : x.kind = 6
  · rw [if_pos h6] at h2
    unfold place at h2
    simp only [Bool.and_eq_true, decide_eq_true_eq] at h2
    exact ⟨h2.1.1, h2.1.2, by omega, by omega, fun _ => h2.2⟩
  · rw [if_neg h6, if_neg hk] at h2
    split at h2
    · unfold place at h2
      simp only [Bool.and_eq_true, decide_eq_true_eq] at h2
      exact ⟨h2.1.1, h2.1.2, by omega, by omega, fun h => absurd h h6⟩
    · cases h2
theorem eps_kind {x : Inst} {n q j : Nat} (hj : j ∈ eps x n q) : x.kind ≠ 7 ∧ (j = x.x.toNat ∨ (x.kind = 6 ∧ j = x.y.toNat)) := by
  unfold eps at hj
  split at hj
  · rename_i h
    simp only [List.mem_cons, List.not_mem_nil, or_false] at hj
    exact ⟨by omega, by rcases hj with h1 | h1; exact Or.inl h1; exact Or.inr ⟨h, h1⟩⟩
  · split at hj
    · rename_i h; simp at hj; exact ⟨by omega, Or.inl hj⟩
    · split at hj
      · rename_i h
        split at hj
        · simp at hj; exact ⟨by omega, Or.inl hj⟩
        · simp at hj
      · split at hj
        · rename_i h
          split at hj
          · simp at hj; exact ⟨by omega, Or.inl hj⟩
          · simp at hj
        · simp at hj
theorem takes_kind {x : Inst} {c : UInt8} (h : takes x c = true) : x.kind ≠ 7 := by
  intro e
  rw [match_takes x c e] at h
  cases h
theorem ins_ok {L : List Inst} (h : rightP L = true) {i : Nat} (hi : i < L.length) : okI L.length (ins L i) = true := by
  unfold rightP at h
  rw [Bool.and_eq_true, List.all_eq_true] at h
  unfold ins
  rw [List.getD_eq_getElem?_getD, List.getElem?_eq_getElem hi]
  exact h.1 _ (List.getElem_mem hi)
theorem ins_far {L : List Inst} {i : Nat} (hi : L.length ≤ i) : ins L i = ⟨0, no, 0, 0⟩ := by
  unfold ins
  rw [List.getD_eq_getElem?_getD, List.getElem?_eq_none hi]
  rfl
theorem fair_of {L : List Inst} (h : rightP L = true) : Fair L := by
  have h0 : 0 < L.length := by
    unfold rightP at h
    rw [Bool.and_eq_true] at h
    simpa using h.2
  refine ⟨h0, fun i n q j hj => ?_, fun i c ht => ?_⟩
  · rcases Nat.lt_or_ge i L.length with hi | hi
    · obtain ⟨hk, hx⟩ := eps_kind hj
      obtain ⟨k1, k2, k3, k4, k5⟩ := okI_x (ins_ok h hi) hk
      rcases hx with rfl | ⟨h6, rfl⟩
      · omega
      · have := k5 h6; omega
    · rw [ins_far hi] at hj
      simp [eps] at hj
  · rcases Nat.lt_or_ge i L.length with hi | hi
    · obtain ⟨k1, k2, k3, k4, k5⟩ := okI_x (ins_ok h hi) (takes_kind ht)
      omega
    · rw [ins_far hi] at ht
      simp [takes] at ht
end Go.Proofs.YtehdnbidgphecaaGreatDoor.M16
/-
  Layer 15 (prog), plain mathematics: where a piece's steps go on: among themselves, or right behind them. No condition but those that each theorem bears.
-/
namespace Go.Proofs.YtehdnbidgphecaaGreatDoor.M15
open Go Go.Proofs.YtehdnbidgphecaaGreatDoor.M14

/-- a step that goes on from lo to hi -/
structure Inside (lo hi : Nat) (x : Inst) : Prop where
  x1 : (lo : Int) ≤ x.x
  x2 : x.x ≤ (hi : Int)
  y1 : x.kind = 6 → (lo : Int) ≤ x.y ∧ x.y ≤ (hi : Int)
  y2 : x.kind ≠ 6 → x.y = 0
  k : 1 ≤ x.kind ∧ x.kind ≤ 8 ∧ x.kind ≠ 7
theorem Inside.wider {lo hi lo' hi' : Nat} {x : Inst} (h : Inside lo hi x) (h1 : lo' ≤ lo) (h2 : hi ≤ hi') : Inside lo' hi' x :=
  ⟨by have := h.x1; omega, by have := h.x2; omega, fun q => by have := h.y1 q; omega, h.y2, h.k⟩
theorem inside_split {lo hi x y : Nat} (h1 : lo ≤ x ∧ x ≤ hi) (h2 : lo ≤ y ∧ y ≤ hi) : Inside lo hi (split x y) := by
  refine ⟨?_, ?_, fun _ => ?_, fun q => absurd rfl q, ?_⟩ <;> simp only [split] <;> omega
theorem inside_jump {lo hi x : Nat} (h1 : lo ≤ x ∧ x ≤ hi) : Inside lo hi (jump x) := by
  refine ⟨?_, ?_, fun q => ?_, fun _ => rfl, ?_⟩
  · simp only [jump]; omega
  · simp only [jump]; omega
  · simp [jump] at q
  · simp only [jump]; omega
theorem inside_one {lo hi a : Nat} {k : Int} (t : ByteArray) (h1 : lo ≤ a + 1 ∧ a + 1 ≤ hi) (hk : 1 ≤ k ∧ k ≤ 5) : Inside lo hi (one k t a) := by
  refine ⟨?_, ?_, fun q => ?_, fun _ => rfl, ?_⟩
  · simp only [one]; omega
  · simp only [one]; omega
  · simp only [one] at q; omega
  · simp only [one]; omega
theorem times_in {f : Nat → List Inst} {K : Nat} (hl : ∀ a, (f a).length = K) (hf : ∀ a x, x ∈ f a → Inside a (a + K) x) {lo hi : Nat} : ∀ (n a : Nat), lo ≤ a → a + n * K ≤ hi → ∀ x, x ∈ times f n a → Inside lo hi x
  | 0, a, _, _, x, hx => by simp [times] at hx
  | n + 1, a, h1, h2, x, hx => by
    rw [Nat.succ_mul] at h2
    rw [times] at hx
    rcases List.mem_append.1 hx with hx | hx
    · exact (hf a x hx).wider h1 (by omega)
    · rw [hl] at hx
      exact times_in hl hf n (a + K) (by omega) (by omega) x hx
theorem maybe_in {f : Nat → List Inst} {K : Nat} (hl : ∀ a, (f a).length = K) (hf : ∀ a x, x ∈ f a → Inside a (a + K) x) {lo hi e : Nat} (he : lo ≤ e ∧ e ≤ hi) : ∀ (n a : Nat), lo ≤ a → a + n * (K + 1) ≤ hi → ∀ x, x ∈ maybe f e n a → Inside lo hi x
  | 0, a, _, _, x, hx => by simp [maybe] at hx
  | n + 1, a, h1, h2, x, hx => by
    rw [Nat.succ_mul] at h2
    rw [maybe] at hx
    rcases List.mem_cons.1 hx with rfl | hx
    · exact inside_split ⟨by omega, by omega⟩ he
    · rcases List.mem_append.1 hx with hx | hx
      · exact (hf (a + 1) x hx).wider (by omega) (by omega)
      · rw [hl] at hx
        exact maybe_in hl hf he n (a + 1 + K) (by omega) (by omega) x hx
theorem star_in {f : Nat → List Inst} {K : Nat} (hf : ∀ a x, x ∈ f a → Inside a (a + K) x) {lo hi e a : Nat} (he : lo ≤ e ∧ e ≤ hi) (h1 : lo ≤ a) (h2 : a + K + 2 ≤ hi) : ∀ x, x ∈ star f e a → Inside lo hi x := by
  intro x hx
  rw [star] at hx
  rcases List.mem_cons.1 hx with rfl | hx
  · exact inside_split ⟨by omega, by omega⟩ he
  · rcases List.mem_append.1 hx with hx | hx
    · exact (hf (a + 1) x hx).wider (by omega) (by omega)
    · rw [List.mem_singleton.1 hx]
      exact inside_jump ⟨by omega, by omega⟩
theorem seqs_in {lo hi : Nat} : ∀ {ks : List Piece}, (∀ p, p ∈ ks → ∀ a x, x ∈ steps p a → Inside a (a + size p) x) → ∀ a, lo ≤ a → a + sizes ks ≤ hi → ∀ x, x ∈ seqs ks a → Inside lo hi x
  | [], _, a, _, _, x, hx => by simp [seqs] at hx
  | p :: l, h, a, h1, h2, x, hx => by
    rw [show sizes (p :: l) = size p + sizes l by simp only [sizes]] at h2
    rw [seqs] at hx
    rcases List.mem_append.1 hx with hx | hx
    · exact (h p (by simp) a x hx).wider h1 (by omega)
    · exact seqs_in (fun q hq => h q (by simp [hq])) (a + size p) (by omega) (by omega) x hx
theorem alts_in {lo hi e : Nat} (he : lo ≤ e ∧ e ≤ hi) : ∀ {ks : List Piece}, (∀ p, p ∈ ks → ∀ a x, x ∈ steps p a → Inside a (a + size p) x) → ∀ a, lo ≤ a → a + sizes ks + 2 * (ks.length - 1) ≤ hi → ∀ x, x ∈ alts ks a e → Inside lo hi x
  | [], _, a, _, _, x, hx => by simp [alts] at hx
  | [p], h, a, h1, h2, x, hx => by
    rw [alts_1] at hx
    rw [show sizes [p] = size p by simp only [sizes, Nat.add_zero]] at h2
    exact (h p (by simp) a x hx).wider h1 (by omega)
  | p :: q :: l, h, a, h1, h2, x, hx => by
    rw [show sizes (p :: q :: l) = size p + sizes (q :: l) by simp only [sizes]] at h2
    simp only [List.length_cons] at h2
    rw [alts_2] at hx
    rcases List.mem_cons.1 hx with rfl | hx
    · exact inside_split ⟨by omega, by omega⟩ ⟨by omega, by omega⟩
    · rcases List.mem_append.1 hx with hx | hx
      · exact (h p (by simp) (a + 1) x hx).wider (by omega) (by omega)
      · rcases List.mem_cons.1 hx with rfl | hx
        · exact inside_jump he
        · exact alts_in he (ks := q :: l) (fun r hr => h r (by simp at hr; simp [hr])) (a + size p + 2) (by omega) (by simp only [List.length_cons]; omega) x hx
/-- where a piece's steps go on -/
theorem steps_in {p : Piece} (h : Good p) : size p ≤ 4000 → ∀ a x, x ∈ steps p a → Inside a (a + size p) x := by
  induction h with
  | leaf k t h =>
    intro _ a x hx
    rw [steps_leaf h] at hx
    rw [size_1 h]
    by_cases c : k = 1
    · rw [if_pos c] at hx; simp at hx
    · rw [if_neg c] at hx
      rw [if_neg c, List.mem_singleton.1 hx]
      exact inside_one _ ⟨by omega, by omega⟩ (by omega)
  | many k hk ks h2 hw ih =>
    intro hs a x hx
    rcases hk with rfl | rfl
    · rw [steps_7] at hx
      rw [size_7] at hs ⊢
      exact seqs_in (fun p hp => ih p hp (by have := size_mem hp; omega)) a (Nat.le_refl _) (by omega) x hx
    · rw [steps_8] at hx
      rw [size_8] at hs hx ⊢
      exact alts_in ⟨by omega, by omega⟩ (fun p hp => ih p hp (by have := size_mem hp; omega)) a (Nat.le_refl _) (by omega) x hx
  | rep p m t hm ht hw ih =>
    intro hs a x hx
    rw [steps_9] at hx
    by_cases hu : 0 < m ∨ t = -1 ∨ m < t
    · have hk := rep_kid hs hu hm.1
      have hl := steps_len hw hk
      have hf := ih hk
      have hz := size_9 no p m t
      obtain ⟨E, hE⟩ : ∃ E, size (.mk 9 no [p] m t) = E := ⟨_, rfl⟩
      rw [hE] at hs hx hz ⊢
      unfold reps at hx
      rw [times_len hl] at hx
      by_cases c : t = -1
      · rw [if_pos c] at hx hz
        rcases List.mem_append.1 hx with hx | hx
        · exact times_in hl hf m.toNat a (Nat.le_refl _) (by omega) x hx
        · exact star_in hf ⟨by omega, by omega⟩ (by omega) (by omega) x hx
      · rw [if_neg c] at hx hz
        rcases List.mem_append.1 hx with hx | hx
        · exact times_in hl hf m.toNat a (Nat.le_refl _) (by omega) x hx
        · exact maybe_in hl hf ⟨by omega, by omega⟩ _ _ (by omega) (by omega) x hx
    · have hm0 : m = 0 := by omega
      have ht0 : t = 0 := by omega
      subst hm0 ht0
      unfold reps at hx
      simp [times, maybe] at hx
end Go.Proofs.YtehdnbidgphecaaGreatDoor.M15
/-
  Layer 16 (match), plain mathematics: where a piece ends, as its pattern says; the program of a piece ends where the piece does. No condition but those that each theorem bears.
-/
namespace Go.Proofs.YtehdnbidgphecaaGreatDoor.M16
open Go Go.Proofs.YtehdnbidgphecaaGreatDoor.M15
open Go.Proofs.YtehdnbidgphecaaGreatDoor.M14 (Piece size sizes leaf)

def Pow (R : Nat → Nat → Prop) : Nat → Nat → Nat → Prop
  | 0, q, u => q = u
  | k + 1, q, u => ∃ v, R q v ∧ Pow R k v u
def Rep (R : Nat → Nat → Prop) (m : Nat) (tp : Int) (q u : Nat) : Prop := ∃ k, m ≤ k ∧ (tp = -1 ∨ (k : Int) ≤ tp) ∧ Pow R k q u
/-- a piece of one byte goes on behind it -/
def Byte (s : Text) (k : Int) (t : ByteArray) (q u : Nat) : Prop := u = q + 1 ∧ ∃ c, s[q]? = some c ∧ takes ⟨k - 1, t, 0, 0⟩ c = true
mutual
/-- begun at q, the piece may end at u -/
def E (s : Text) : Piece → Nat → Nat → Prop
  | .mk k t ks m tp, q, u =>
    if k = 1 then q = u else if k = 2 ∨ k = 3 ∨ k = 4 then Byte s k t q u else if k = 5 then q = 0 ∧ u = 0 else if k = 6 then q = s.length ∧ u = s.length
    else if k = 7 then Eseq s ks q u else if k = 8 then Ealt s ks q u else if k = 9 then Rep (fun q u => Ehd s ks q u) m.toNat tp q u else False
def Eseq (s : Text) : List Piece → Nat → Nat → Prop
  | [], q, u => q = u
  | p :: l, q, u => ∃ v, E s p q v ∧ Eseq s l v u
def Ealt (s : Text) : List Piece → Nat → Nat → Prop
  | [], _, _ => False
  | p :: l, q, u => E s p q u ∨ Ealt s l q u
def Ehd (s : Text) : List Piece → Nat → Nat → Prop
  | [], _, _ => False
  | p :: _, q, u => E s p q u
end
/-- one step on -/
def Nxt (L : List Inst) (s : Text) (i u j v : Nat) : Prop := (j ∈ eps (ins L i) s.length u ∧ v = u) ∨ ∃ c, s[u]? = some c ∧ takes (ins L i) c = true ∧ j = (ins L i).x.toNat ∧ v = u + 1
def Mem (a z : Nat) (I : Nat → Nat → Prop) (X : Nat → Prop) (R : Nat → Nat → Prop) (j v : Nat) : Prop := (a ≤ j ∧ j < z ∧ I j v) ∨ (j = z ∧ ∃ q, X q ∧ R q v)
/-- the steps from a up to z, entered at a, are left at z, and only where R says -/
def Sound (L : List Inst) (s : Text) (a z : Nat) (R : Nat → Nat → Prop) : Prop :=
  ∀ X : Nat → Prop, ∃ I : Nat → Nat → Prop, (∀ q, X q → Mem a z I X R a q) ∧ ∀ i u j v, a ≤ i → i < z → I i u → Nxt L s i u j v → Mem a z I X R j v
/-- .. and everywhere where R says -/
def Full (L : List Inst) (s : Text) (a z : Nat) (R : Nat → Nat → Prop) : Prop := ∀ b q v, Reach L s b a q → R q v → Reach L s b z v
structure Frag (L : List Inst) (s : Text) (a z : Nat) (R : Nat → Nat → Prop) : Prop where
  sound : Sound L s a z R
  full : Full L s a z R
section
variable {L : List Inst} {s : Text} {a z m b : Nat} {R R1 R2 : Nat → Nat → Prop}
theorem Frag.same (h : Frag L s a z R1) (hr : ∀ q v, R1 q v ↔ R2 q v) : Frag L s a z R2 := by
  have : R1 = R2 := funext fun q => funext fun v => propext (hr q v)
  rwa [← this]
theorem Mem.left {I I' : Nat → Nat → Prop} {X : Nat → Prop} {R' : Nat → Nat → Prop} {z' j v : Nat} (h : Mem a z I X R j v) (h1 : ∀ j v, a ≤ j → j < z → I j v → Mem a z' I' X R' j v) (h2 : (∃ q, X q ∧ R q v) → Mem a z' I' X R' z v) : Mem a z' I' X R' j v := by
  rcases h with ⟨h3, h4, h5⟩ | ⟨rfl, h3⟩
  · exact h1 j v h3 h4 h5
  · exact h2 h3
theorem Reach.next {i u j v : Nat} (hr : Reach L s b i u) (h : Nxt L s i u j v) : Reach L s b j v := by
  rcases h with ⟨h1, rfl⟩ | ⟨c, h1, h2, rfl, rfl⟩
  · exact hr.on h1
  · exact hr.byte h1 h2
/-! a piece's steps, where they lie -/
def Lie (L : List Inst) (a : Nat) (l : List Inst) : Prop := ∀ i (h : i < l.length), ins L (a + i) = l[i]
theorem Lie.left {l l' : List Inst} (h : Lie L a (l ++ l')) : Lie L a l := fun i hi => by
  rw [h i (by rw [List.length_append]; omega), List.getElem_append_left hi]
theorem Lie.right {l l' : List Inst} (h : Lie L a (l ++ l')) : Lie L (a + l.length) l' := fun i hi => by
  have := h (l.length + i) (by rw [List.length_append]; omega)
  rw [List.getElem_append_right (by omega)] at this
  rw [Nat.add_assoc, this]
  simp
end
end Go.Proofs.YtehdnbidgphecaaGreatDoor.M16
/-
  Layer 15 (prog), the layer's box: what it holds, what is put behind the steps, what else stays; walks of here, step and jump. The conditions stand in the statements.
-/
namespace Go.Proofs.YtehdnbidgphecaaGreatDoor.W15
set_option maxRecDepth 100000
open Go Go.RowKit Go.Proofs.YtehdnbidgphecaaGreatDoor.Strs Go.Proofs.YtehdnbidgphecaaGreatDoor.Recs Go.Proofs.YtehdnbidgphecaaGreatDoor.M15
open Go.Proofs.YtehdnbidgphecaaGreatDoor.M14 (Piece size sizes)
open Go.Proofs.YtehdnbidgphecaaGreatDoor.W14 (Raw rawA rawC PAt PBox Kids below_new cell_block own_same own_form)
open Go.Proofs.YtehdnbidgphecaaGreatDoor.Row256 (Beside)

/-- a method of the layer in block b, as a value -/
abbrev way (g b : Nat) : Value := .func (.func g) #[.pointer (some ⟨b, 0, none⟩)] #[]
def layA (b : Nat) (v : Value) : Array Value := #[v, .nilFunc, way 61 b, way 62 b, way 63 b, way 64 b, way 65 b, way 66 b, way 67 b, way 68 b, way 69 b]
/-- block b is the layer's box, v its steps -/
def LBox (w : World) (b : Nat) (v : Value) : Prop := w.heap[b]? = some (.cells (layA b v) 90 (0, 0))
/-- the layer's box, and the steps in a row of its own that is younger -/
structure Lay (w : World) (b : Nat) (v : Value) (L : List Inst) : Prop where
  box : LBox w b v
  own : w.ownsRow (b + 1) 62 4 v L.length (L.flatMap insC)
/-- but for the layer's box, the row of its steps and what is new, the world is as it was -/
structure Grow (b : Nat) (v v' : Value) (w w' : World) : Prop where
  os : w'.os = w.os
  tape : w'.tape = w.tape
  output : w'.output = w.output
  size : w.heap.size ≤ w'.heap.size
  block : ∀ k, k < w.heap.size → k ≠ b → v.ownBlock ≠ some k → w'.heap[k]? = w.heap[k]?
  own : ∀ k, v'.ownBlock = some k → v.ownBlock = some k ∨ w.heap.size ≤ k
section
variable {w w' w'' : World} {b : Nat} {v v' v'' : Value} {L M : List Inst}
theorem LBox.lt (h : LBox w b v) : b < w.heap.size := (Array.getElem?_eq_some_iff.1 h).1
theorem LBox.c0 (h : LBox w b v) : w.cell? ⟨b, 0, none⟩ = some v := cell_of_row w b 0 _ _ _ h
theorem LBox.free (h : LBox w b v) (i : Nat) : w.frozen? ⟨b, i, none⟩ = false := frozen_of_row w b i _ _ h
theorem LBox.below (h : LBox w b v) (k : Below w.heap.size w w') : LBox w' b v := (k.block b h.lt).trans h
theorem LBox.put (h : LBox w b v) (u : Value) : LBox (w.setCell ⟨b, 0, none⟩ u) b u := by
  unfold LBox at *
  rw [heap_setCell_same w b 0 _ _ _ h]; rfl
theorem Lay.below (h : Lay w b v L) (k : Below w.heap.size w w') : Lay w' b v L := ⟨h.box.below k, own_same h.own fun i _ hi => k.block i hi⟩
theorem Lay.other (h : Lay w b v L) {c : Nat} (k : Beside c w w') (hb : c ≠ b) (hv : v.ownBlock ≠ some c) : Lay w' b v L := by
  refine ⟨(k.block b h.box.lt (fun q => hb q.symm)).trans h.box, ?_⟩
  have h1 := h.own
  refine ⟨h1.1, ?_⟩
  rcases h1.2 with h0 | ⟨g, cap, cur, e1, hb, hh, rest⟩
  · exact Or.inl h0
  · subst e1
    exact Or.inr ⟨g, cap, cur, rfl, hb, (k.block g (Array.getElem?_eq_some_iff.1 hh).1 (fun q => hv (by subst q; rfl))).trans hh, rest⟩
theorem Lay.own_gt (h : Lay w b v L) : ∀ k, v.ownBlock = some k → b < k ∧ k < w.heap.size := fun k hk => h.own.lt k hk
theorem Lay.form (h : Lay w b v L) : ∃ A c, v = .slice A L.length c ∧ L.length ≤ c ∧ c ≤ maxLen := (Recs.of_own insC_len rfl h.own).form
theorem Grow.refl (b : Nat) (v : Value) (w : World) : Grow b v v w w := ⟨rfl, rfl, rfl, Nat.le_refl _, fun _ _ _ _ => rfl, fun _ h => Or.inl h⟩
theorem Grow.trans (h : Grow b v v' w w') (k : Grow b v' v'' w' w'') : Grow b v v'' w w'' :=
  ⟨k.os.trans h.os, k.tape.trans h.tape, k.output.trans h.output, Nat.le_trans h.size k.size, fun i hi e1 e2 => (k.block i (Nat.lt_of_lt_of_le hi h.size) e1 (fun q => by
    rcases h.own i q with q2 | q2
    · exact e2 q2
    · omega)).trans (h.block i hi e1 e2), fun i hi => by
    rcases k.own i hi with q | q
    · exact h.own i q
    · exact Or.inr (Nat.le_trans h.size q)⟩
theorem Grow.of (h : Below w.heap.size w w') : Grow b v v w w' := ⟨h.os, h.tape, h.output, h.size, fun k hk _ _ => h.block k hk, fun _ q => Or.inl q⟩
/-- a box of the caller's own, made since -/
theorem Grow.beside {w0 : World} {c : Nat} (h : Grow b v v' w0 w) (k : Beside c w w') (hc : w0.heap.size ≤ c) : Grow b v v' w0 w' :=
  ⟨k.os.trans h.os, k.tape.trans h.tape, k.output.trans h.output, Nat.le_trans h.size k.size, fun i hi e1 e2 => (k.block i (Nat.lt_of_lt_of_le hi h.size) (by omega)).trans (h.block i hi e1 e2), h.own⟩
/-- a row of the caller's own, made since -/
theorem Grow.put {w0 : World} {u u' : Value} (h : Grow b v v' w0 w) (k : Put u u' w w') (hu : ∀ i, u.ownBlock = some i → w0.heap.size ≤ i) : Grow b v v' w0 w' := by
  obtain ⟨g1, g2, g3, g4, g5⟩ := k.grown
  exact ⟨g1.trans h.os, g2.trans h.tape, g3.trans h.output, Nat.le_trans h.size g4, fun i hi e1 e2 => (g5 i (Nat.lt_of_lt_of_le hi h.size) (fun q => by have := hu i q.symm; omega)).trans (h.block i hi e1 e2), h.own⟩
/-- another block stays -/
theorem Grow.keeps (h : Grow b v v' w w') (hl : Lay w b v L) {k : Nat} (hk : k < b) : w'.heap[k]? = w.heap[k]? :=
  h.block k (Nat.lt_trans hk hl.box.lt) (by omega) (fun q => by have := (hl.own_gt k q).1; omega)
theorem Grow.piece {r : Raw} {p : Piece} (h : Grow b v v' w w') (hl : Lay w b v L) (hp : PAt (fun k => k < b) w r p) : PAt (fun k => k < b) w' r p := hp.keep (fun _ q => q) fun _ q => cell_block (h.keeps hl q)
theorem below_piece {r : Raw} {p : Piece} (h : Below w.heap.size w w') (hb : b < w.heap.size) (hp : PAt (fun k => k < b) w r p) : PAt (fun k => k < b) w' r p := hp.keep (fun _ q => q) fun _ (q : _ < b) => cell_block (h.block _ (Nat.lt_trans q hb))
/-- steps are put behind the others -/
theorem Lay.more {w1 w2 : World} (h : Lay w b v L) (hB : Below w.heap.size w w1) (hown : w2.ownsRow (b + 1) 62 4 v' (L ++ M).length ((L ++ M).flatMap insC)) (hp : Put v v' w1 w2) :
    LBox w2 b v ∧ Lay (w2.setCell ⟨b, 0, none⟩ v') b v' (L ++ M) ∧ Grow b v v' w (w2.setCell ⟨b, 0, none⟩ v') := by
  obtain ⟨g1, g2, g3, g4, g5⟩ := hp.grown
  have h1 := h.below hB
  have hb2 : LBox w2 b v := (g5 b h1.box.lt (fun q => by have := (h.own_gt b q.symm).1; omega)).trans h1.box
  refine ⟨hb2, ⟨hb2.put v', own_same hown fun k hk _ => heap_setCell_other w2 _ k _ (show k ≠ b by omega)⟩, ⟨g1.trans hB.os, g2.trans hB.tape, g3.trans hB.output, ?_, ?_, ?_⟩⟩
  · rw [World.size_setCell]; exact Nat.le_trans hB.size g4
  · intro k hk e1 e2
    rw [heap_setCell_other w2 _ k _ e1, g5 k (Nat.lt_of_lt_of_le hk hB.size) (fun q => e2 q.symm), hB.block k hk]
  · intro k hk
    rcases hp.own k hk with q | q
    · exact Or.inl q
    · exact Or.inr (Nat.le_trans hB.size q)
end
/-- what a method of the layer comes to that answers nothing: steps are laid -/
def Laid (b : Nat) (v : Value) (w : World) (L : List Inst) (e : Ending) (w' : World) : Prop := e = .returned (.tuple #[]) ∧ ∃ v', Lay w' b v' L ∧ Grow b v v' w w'
/-- and of one that answers a place -/
def LaidAt (b : Nat) (v : Value) (w : World) (n : Nat) (L : List Inst) (e : Ending) (w' : World) : Prop := e = .returned (.int .i64 n) ∧ ∃ v', Lay w' b v' L ∧ Grow b v v' w w'
set_option maxHeartbeats 1000000 in
theorem here_any {w : World} {b : Nat} {v : Value} {L : List Inst} (h : Lay w b v L) : Calls Tryz.prog 82 #[.pointer (some ⟨b, 0, none⟩)] w fun e w' => e = .returned (.int .i64 L.length) ∧ w' = w := by
  obtain ⟨A, c, rfl, h1, h2⟩ := h.form
  have c0 := h.box.c0
  unfold maxLen at h2
  clear h
  go_enter Tryz.func82, Tryz.ntmps82
  go_wp2_with fail
  go_ret
  exact ⟨rfl, rfl⟩
set_option maxHeartbeats 2000000 in
theorem step_any {w : World} {b : Nat} {v : Value} {L : List Inst} (h : Lay w b v L) (hl : L.length ≤ 900000) (k : Int) (t : ByteArray) : Calls Tryz.prog 80 #[.pointer (some ⟨b, 0, none⟩), .int .i64 k, .string t] w (LaidAt b v w L.length (L ++ [⟨k, t, (L.length + 1 : Nat), 0⟩])) := by
  have HE := Lib.hid (here_any h)
  have H := Lib.hid h
  have hw : wrap64 ((L.length : Int) + 1) = ((L.length + 1 : Nat) : Int) := by unfold wrap64; omega
  obtain ⟨n, hn⟩ : ∃ n, L.length + 1 = n := ⟨_, rfl⟩
  rw [hn] at hw ⊢
  obtain ⟨m, hm⟩ : ∃ m, L.length = m := ⟨_, rfl⟩
  have HM := Lib.hid hm
  rw [hm] at HE hw hl ⊢
  have HW := Lib.hid hw
  have HL := Lib.hid hl
  have hc0 := h.box.c0
  have hf := h.box.free 0
  clear h hn hm hl
  go_enter Tryz.func80, Tryz.ntmps80
  go_wp2_with fail
  refine HE.out.mono ?_
  rintro e w' ⟨rfl, rfl⟩
  go_wp2_with (first
    | (refine slice_ins (r := ⟨k, t, (n : Nat), 0⟩) rfl (.tmp 19) rfl rfl ?_; intro w1 b1 e1 p1 l1 z1 o1; have P1 := Lib.hid p1; have L1 := Lib.hid l1; clear e1 p1 l1 z1 o1)
    | (refine append_ins rfl (.tmp 14) (.tmp 20) rfl rfl rfl (H.out.below L1.out).own P1.out (by rw [HM.out]; simp only [List.length_cons, List.length_nil]; have := HL.out; omega) (Nat.le_trans H.out.box.lt L1.out.size) ?_; intro v' w2 o2 p2; obtain ⟨g2, c2, rfl, -, -, -, -⟩ := own_form o2 (by simp); have R2 := Lib.hid (H.out.more L1.out o2 p2); obtain ⟨q2, hq2⟩ : ∃ q2, (L ++ [(⟨k, t, (n : Nat), 0⟩ : Inst)]).length = q2 := ⟨_, rfl⟩; rw [hq2] at R2 ⊢; clear hq2; have hf2 := R2.out.1.free 0; have hc2 := R2.out.1.c0; clear o2 p2))
  go_ret
  exact ⟨rfl, _, R2.out.2⟩
set_option maxHeartbeats 2000000 in
theorem jump_any {w : World} {b : Nat} {v : Value} {L : List Inst} (h : Lay w b v L) (hl : L.length ≤ 900000) (to : Nat) : Calls Tryz.prog 81 #[.pointer (some ⟨b, 0, none⟩), .int .i64 to] w (LaidAt b v w L.length (L ++ [M15.jump to])) := by
  have HE := Lib.hid (here_any h)
  have H := Lib.hid h
  unfold M15.jump no
  obtain ⟨m, hm⟩ : ∃ m, L.length = m := ⟨_, rfl⟩
  have HM := Lib.hid hm
  rw [hm] at HE hl ⊢
  have HL := Lib.hid hl
  have hc0 := h.box.c0
  have hf := h.box.free 0
  clear h hm hl
  go_enter Tryz.func81, Tryz.ntmps81
  go_wp2_with fail
  refine HE.out.mono ?_
  rintro e w' ⟨rfl, rfl⟩
  go_wp2_with (first
    | (refine slice_ins (r := ⟨8, ⟨#[]⟩, (to : Nat), 0⟩) rfl (.tmp 14) rfl rfl ?_; intro w1 b1 e1 p1 l1 z1 o1; have P1 := Lib.hid p1; have L1 := Lib.hid l1; clear e1 p1 l1 z1 o1)
    | (refine append_ins rfl (.tmp 12) (.tmp 15) rfl rfl rfl (H.out.below L1.out).own P1.out (by rw [HM.out]; simp only [List.length_cons, List.length_nil]; have := HL.out; omega) (Nat.le_trans H.out.box.lt L1.out.size) ?_; intro v' w2 o2 p2; obtain ⟨g2, c2, rfl, -, -, -, -⟩ := own_form o2 (by simp); have R2 := Lib.hid (H.out.more L1.out o2 p2); obtain ⟨q2, hq2⟩ : ∃ q2, (L ++ [(⟨8, ⟨#[]⟩, (to : Nat), 0⟩ : Inst)]).length = q2 := ⟨_, rfl⟩; rw [hq2] at R2 ⊢; clear hq2; have hf2 := R2.out.1.free 0; have hc2 := R2.out.1.c0; clear o2 p2))
  go_ret
  exact ⟨rfl, _, R2.out.2⟩
end Go.Proofs.YtehdnbidgphecaaGreatDoor.W15
