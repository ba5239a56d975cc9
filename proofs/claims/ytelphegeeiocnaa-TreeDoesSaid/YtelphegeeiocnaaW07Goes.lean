/-
  Layer 7 (tree), a walk of the law TreeDoes over the contracts: it returns true, at every list of acts; nothing that was there is changed.
-/
import Derived.Test.YtelphegeeiocnaaW07Lives
namespace Go.Proofs.Ytelphegeeiocnaa.W07
open Go Go.RowKit Go.Proofs.Ytelphegeeiocnaa.Strs Go.Proofs.Ytelphegeeiocnaa.Recs Go.Proofs.Ytelphegeeiocnaa.M07 Go.Proofs.Ytelphegeeiocnaa.Range
open Go.Proofs.Ytelphegeeiocnaa.Kit (ret_str ret_bool ret_int mk_of mk_bytes ba_ext below_draws on)

theorem put_more (t : Tr) (d : Int) (s : Bytes) (k : Int) (x : Bytes) : (put t d s k x).1.L.length ≤ t.L.length + 1 ∧ (put t d s k x).1.last ≤ t.last + 1 := by
  unfold put
  split
  · exact ⟨by show t.L.length ≤ _; omega, by show t.last ≤ _; omega⟩
  · exact ⟨by show (t.L ++ [_]).length ≤ _; simp, by show t.last + 1 ≤ _; omega⟩
theorem set_more (t : Tr) (n : Int) (x : Bytes) : (M07.set t n x).1.L.length ≤ t.L.length + 1 ∧ (M07.set t n x).1.last ≤ t.last + 1 := by
  have e : t.L.length ≤ t.L.length + 1 ∧ t.last ≤ t.last + 1 := ⟨by omega, by omega⟩
  unfold M07.set
  split
  · exact e
  · split
    · exact e
    · split
      · exact e
      · exact ⟨by show (t.L.map _).length ≤ _; rw [List.length_map]; omega, by show t.last ≤ _; omega⟩
theorem cut_more (t : Tr) (d : Int) (s : Bytes) : (cut t d s).1.L.length ≤ t.L.length + 1 ∧ (cut t d s).1.last ≤ t.last + 1 := ⟨by have := cut_len t d s; omega, by rw [cut_last]; omega⟩
theorem move_more (t : Tr) (src : Int) (s : Bytes) (dst : Int) (a : Bytes) : (M07.move t src s dst a).1.L.length ≤ t.L.length + 1 ∧ (M07.move t src s dst a).1.last ≤ t.last + 1 := by
  have e : t.L.length ≤ t.L.length + 1 ∧ t.last ≤ t.last + 1 := ⟨by omega, by omega⟩
  have pl : ∀ (u : Tr) (x : Nd), u.L.length ≤ t.L.length → u.last = t.last → (placed u x dst a).L.length ≤ t.L.length + 1 ∧ (placed u x dst a).last ≤ t.last + 1 := fun u x h1 h2 =>
    ⟨by show (u.L.map _).length ≤ _; rw [List.length_map]; omega, by show u.last ≤ _; omega⟩
  unfold M07.move
  split
  · exact e
  · split
    · exact e
    · unfold moveOn
      split
      · exact e
      · split
        · split
          · exact e
          · split
            · exact e
            · split
              · exact e
              · exact pl _ _ (cut_len _ _ _) (cut_last _ _ _)
        · exact pl _ _ (Nat.le_refl _) rfl
theorem doAct_more (t : Tr) (act dir dst : Int) (nm al : Bytes) (kind : Int) (dt : Bytes) : (doAct t act dir dst nm al kind dt).L.length ≤ t.L.length + 1 ∧ (doAct t act dir dst nm al kind dt).last ≤ t.last + 1 := by
  unfold doAct
  split
  · exact put_more _ _ _ _ _
  · split
    · exact set_more _ _ _
    · split
      · exact cut_more _ _ _
      · split
        · exact move_more _ _ _ _ _
        · exact ⟨by omega, by omega⟩
/-- what is held between two rounds -/
structure Goes (Rep : (Nat → Prop) → World → Value → Tr → Prop) (w wr : World) (p0 : Nat) (pv : Value) (k : Nat) (t : Tr) (F : Nat → Prop) (u : Value) : Prop where
  rep : Rep F wr pv t
  box : TreeBox wr p0 u t.last
  nodes : Nodes wr.heap.size wr u t.L
  off : Off F u
  offp : ¬ F p0
  new : ∀ i, F i → w.heap.size ≤ i
  len : t.L.length ≤ k + 1
  last : t.last ≤ k + 1
  below : Below w.heap.size w wr
  high : w.heap.size ≤ p0
theorem short_data {l : List Ac} (h : isShort l = true) {k : Nat} (hk : k < l.length) : (l[k]).data.length ≤ 70000 := by
  unfold isShort at h
  rw [Bool.and_eq_true] at h
  have := List.all_eq_true.1 h.1 _ (List.getElem_mem hk)
  simpa using this
theorem short_len {l : List Ac} (h : isShort l = true) : l.length ≤ 60 := by
  unfold isShort at h
  rw [Bool.and_eq_true] at h
  simpa using h.2
/-- a copy takes the tree's place, and acts are done to the old one -/
theorem goes_copy {Rep : (Nat → Prop) → World → Value → Tr → Prop} (C : Trees Rep) {w wr w1 : World} {p0 k : Nat} {pv v' u : Value} {t : Tr} {F F' : Nat → Prop} (h : Goes Rep w wr p0 pv k t F u) (hR : Rep F' w1 v' t) (hF : ∀ i, F' i → wr.heap.size ≤ i) (hb : Below wr.heap.size wr w1) : Goes Rep w w1 p0 v' k t F' u where
  rep := hR
  box := h.box.below hb
  nodes := (h.nodes.below hb).more hb.size
  off := by
    intro b o n c e hk
    subst e
    by_cases h0 : 0 < t.L.length
    · have hn : n = t.L.length := by obtain ⟨A', c', e', _⟩ := h.nodes; injection e'
      obtain ⟨b', o', _, e2, hlt, _⟩ := Nodes.at_ h.nodes (k := 0) (by omega)
      cases e2
      have := hF _ hk
      omega
    · exact absurd (right_full (C.right h.rep)) h0
  offp := fun hk => by have := hF _ hk; have := h.box.lt; omega
  new := fun i hi => Nat.le_trans h.below.size (hF i hi)
  len := h.len
  last := h.last
  below := on h.below hb
  high := h.high
/-- what is written in other blocks leaves all this -/
theorem goes_other {Rep : (Nat → Prop) → World → Value → Tr → Prop} (C : Trees Rep) {w wr w1 : World} {p0 k : Nat} {pv u : Value} {t : Tr} {F G : Nat → Prop} (h : Goes Rep w wr p0 pv k t F u) (ht : Turns G wr w1) (hG : ∀ i, F i → ¬ G i) (hp : ¬ G p0) (hu : Off G u) (hw : ∀ i, G i → w.heap.size ≤ i) : Goes Rep w w1 p0 pv k t F u where
  rep := C.keep h.rep (fun i hi => ht.block i (C.low h.rep i hi) (hG i hi)) ht.size
  box := h.box.turns ht hp
  nodes := (nodes_turns h.nodes ht hu).more ht.size
  off := h.off
  offp := h.offp
  new := h.new
  len := h.len
  last := h.last
  below := h.below.trans (ht.below hw h.below.size)
  high := h.high
/-- nodes don't lie in a box of a tree -/
theorem off_box {w : World} {p B n c : Nat} {A : Option Addr} {u' : Value} {last : Int} {L : List Nd} (hb : TreeBox w p (.slice A n c) last) (hn : Nodes B w u' L) (h0 : 0 < L.length) : Off (fun k => k = p) u' := by
  obtain ⟨A', c', rfl, h1, h2⟩ := hn.form
  obtain ⟨b, o, hl, rfl, hlt, hc0, hc1, _⟩ := Nodes.at_ hn h0
  intro b' o' n' c'' e hk
  cases e
  subst hk
  rw [Nat.zero_mul, Nat.add_zero] at hc0 hc1
  have hcell : ∀ j, w.cell? ⟨b, j, none⟩ = (#[Value.slice A n c, Value.int .i64 last] : Array Value)[j]? := fun j => cell_of_row w _ j _ _ (0, 0) hb
  rw [hcell] at hc0 hc1
  match o with
  | 0 => simp at hc0
  | 1 => simp at hc1
  | o + 2 => simp at hc0
theorem box_stored2 {w : World} {p : Nat} {v u : Value} {l last : Int} (h : TreeBox w p v l) : TreeBox ((w.setCell ⟨p, 0, none⟩ u).setCell ⟨p, 1, none⟩ (.int .i64 last)) p u last := set_heap (set_heap h 0 u) 1 (.int .i64 last)
/-- an act done, and its tree laid into the box; other blocks G may have turned -/
theorem goes_next {Rep : (Nat → Prop) → World → Value → Tr → Prop} (C : Trees Rep) {w wr w8 w9 : World} {p0 k n c : Nat} {A : Option Addr} {pv u' : Value} {t t' : Tr} {F F' G : Nat → Prop} (h : Goes Rep w wr p0 pv k t F (.slice A n c)) (hn : Nodes w8.heap.size w8 u' t'.L) (hR : Rep F' w8 pv t') (ho : Off F' u') (ht : Turns F wr w8) (hF : ∀ i, F' i → F i ∨ wr.heap.size ≤ i)
    (hb : Turns G w8 w9) (hG : ∀ i, F' i → ¬ G i) (hGp : ¬ G p0) (hGu : Off G u') (hGw : ∀ i, G i → w.heap.size ≤ i)
    (hl : t'.L.length ≤ t.L.length + 1) (hl2 : t'.last ≤ t.last + 1) : Goes Rep w ((w9.setCell ⟨p0, 0, none⟩ u').setCell ⟨p0, 1, none⟩ (.int .i64 t'.last)) p0 pv (k + 1) t' F' u' := by
  have hp := h.box.lt
  have hnp : ¬ F' p0 := fun hk => by rcases hF _ hk with h1 | h1; exact h.offp h1; omega
  have b8 := h.box.turns ht h.offp
  have b9 := b8.turns hb hGp
  have tq := turns_box w9 p0 u' (.int .i64 t'.last)
  have hnew : ∀ i, F' i → w.heap.size ≤ i := fun i hi => by rcases hF i hi with h1 | h1; exact h.new i h1; exact Nat.le_trans h.below.size h1
  have r9 : Rep F' w9 pv t' := C.keep hR (fun i hi => hb.block i (C.low hR i hi) (hG i hi)) hb.size
  have h1 : Below w.heap.size w w8 := h.below.trans (ht.below h.new h.below.size)
  refine ⟨C.keep r9 (fun i hi => tq.block i (C.low r9 i hi) (fun e => hnp (by rw [← e]; exact hi))) tq.size, box_stored2 b9, ?_, ho, hnp, hnew, by have := h.len; omega, by have := h.last; omega, ?_, h.high⟩
  · exact ((nodes_turns (nodes_turns hn hb hGu) tq (off_box b8 hn (right_full (C.right hR)))).more (Nat.le_trans hb.size tq.size))
  · exact ((h1.trans (hb.below hGw h1.size)).setCell (p := ⟨p0, 0, none⟩) h.high _).setCell (p := ⟨p0, 1, none⟩) h.high _
end Go.Proofs.Ytelphegeeiocnaa.W07
