/-
  Texts joined, in build order, each with its own comment and its own conditions: W07Goes, W09Does.
-/
import Derived.Test.YtdnedeeocpaolaaDoorJ17
import Derived.Test.YtdnedeeocpaolaaDoorJ10
/-
  Layer 7 (tree), a walk of the law TreeDoes over the contracts: it returns true, at every list of acts; nothing that was there is changed.
-/
namespace Go.Proofs.YtdnedeeocpaolaaDoor.W07
open Go Go.RowKit Go.Proofs.YtdnedeeocpaolaaDoor.Strs Go.Proofs.YtdnedeeocpaolaaDoor.Recs Go.Proofs.YtdnedeeocpaolaaDoor.M07 Go.Proofs.YtdnedeeocpaolaaDoor.Range
open Go.Proofs.YtdnedeeocpaolaaDoor.Kit (ret_str ret_bool ret_int mk_of mk_bytes ba_ext below_draws on)

theorem put_more (t : Tr) (d : Int) (s : Bytes) (k : Int) (x : Bytes) : (put t d s k x).1.L.length ≤ t.L.length + 1 ∧ (put t d s k x).1.last ≤ t.last + 1 := by
  unfold put
  split
  · exact ⟨by show t.L.length ≤ _; omega, by show t.last ≤ _; omega⟩
  · exact ⟨by show (t.L ++ [_]).length ≤ _; simp, by show t.last + 1 ≤ _; omega⟩
theorem set_more (t : Tr) (n : Int) (x : Bytes) : (M07.set t n x).1.L.length ≤ t.L.length + 1 ∧ (M07.set t n x).1.last ≤ t.last + 1 := by
  have e : t.L.length ≤ t.L.length + 1 ∧ t.last ≤ t.last + 1 := ⟨by omega, by omega⟩
  unfold M07.set
  split
  · exact e
  · split
    · exact e
    · split
      · exact e
      · exact ⟨by show (t.L.map _).length ≤ _; rw [List.length_map]; omega, by show t.last ≤ _; omega⟩
theorem cut_more (t : Tr) (d : Int) (s : Bytes) : (cut t d s).1.L.length ≤ t.L.length + 1 ∧ (cut t d s).1.last ≤ t.last + 1 := ⟨by have := cut_len t d s; omega, by rw [cut_last]; omega⟩
theorem move_more (t : Tr) (src : Int) (s : Bytes) (dst : Int) (a : Bytes) : (M07.move t src s dst a).1.L.length ≤ t.L.length + 1 ∧ (M07.move t src s dst a).1.last ≤ t.last + 1 := by
  have e : t.L.length ≤ t.L.length + 1 ∧ t.last ≤ t.last + 1 := ⟨by omega, by omega⟩
  have pl : ∀ (u : Tr) (x : Nd), u.L.length ≤ t.L.length → u.last = t.last → (placed u x dst a).L.length ≤ t.L.length + 1 ∧ (placed u x dst a).last ≤ t.last + 1 := fun u x h1 h2 =>
    ⟨by show (u.L.map _).length ≤ _; rw [List.length_map]; omega, by show u.last ≤ _; omega⟩
  unfold M07.move
  split
  · exact e
  · split
    · exact e
    · unfold moveOn
      split
      · exact e
      · split
        · split
          · exact e
          · split
            · exact e
            · split
              · exact e
              · exact pl _ _ (cut_len _ _ _) (cut_last _ _ _)
        · exact pl _ _ (Nat.le_refl _) rfl
theorem doAct_more (t : Tr) (act dir dst : Int) (nm al : Bytes) (kind : Int) (dt : Bytes) : (doAct t act dir dst nm al kind dt).L.length ≤ t.L.length + 1 ∧ (doAct t act dir dst nm al kind dt).last ≤ t.last + 1 := by
  unfold doAct
  split
  · exact put_more _ _ _ _ _
  · split
    · exact set_more _ _ _
    · split
      · exact cut_more _ _ _
      · split
        · exact move_more _ _ _ _ _
        · exact ⟨by omega, by omega⟩
/-- what is held between two rounds -/
structure Goes (Rep : (Nat → Prop) → World → Value → Tr → Prop) (w wr : World) (p0 : Nat) (pv : Value) (k : Nat) (t : Tr) (F : Nat → Prop) (u : Value) : Prop where
  rep : Rep F wr pv t
  box : TreeBox wr p0 u t.last
  nodes : Nodes wr.heap.size wr u t.L
  off : Off F u
  offp : ¬ F p0
  new : ∀ i, F i → w.heap.size ≤ i
  len : t.L.length ≤ k + 1
  last : t.last ≤ k + 1
  below : Below w.heap.size w wr
  high : w.heap.size ≤ p0
theorem short_data {l : List Ac} (h : isShort l = true) {k : Nat} (hk : k < l.length) : (l[k]).data.length ≤ 70000 := by
  unfold isShort at h
  rw [Bool.and_eq_true] at h
  have := List.all_eq_true.1 h.1 _ (List.getElem_mem hk)
  simpa using this
theorem short_len {l : List Ac} (h : isShort l = true) : l.length ≤ 60 := by
  unfold isShort at h
  rw [Bool.and_eq_true] at h
  simpa using h.2
/-- a copy takes the tree's place, and acts are done to the old one -/
theorem goes_copy {Rep : (Nat → Prop) → World → Value → Tr → Prop} (C : Trees Rep) {w wr w1 : World} {p0 k : Nat} {pv v' u : Value} {t : Tr} {F F' : Nat → Prop} (h : Goes Rep w wr p0 pv k t F u) (hR : Rep F' w1 v' t) (hF : ∀ i, F' i → wr.heap.size ≤ i) (hb : Below wr.heap.size wr w1) : Goes Rep w w1 p0 v' k t F' u where
  rep := hR
  box := h.box.below hb
  nodes := (h.nodes.below hb).more hb.size
  off := by
    intro b o n c e hk
    subst e
    by_cases h0 : 0 < t.L.length
    · have hn : n = t.L.length := by obtain ⟨A', c', e', _⟩ := h.nodes; injection e'
      obtain ⟨b', o', _, e2, hlt, _⟩ := Nodes.at_ h.nodes (k := 0) (by omega)
      cases e2
      have := hF _ hk
      omega
    · exact absurd (right_full (C.right h.rep)) h0
  offp := fun hk => by have := hF _ hk; have := h.box.lt; omega
  new := fun i hi => Nat.le_trans h.below.size (hF i hi)
  len := h.len
  last := h.last
  below := on h.below hb
  high := h.high
/-- what is written in other blocks leaves all this -/
theorem goes_other {Rep : (Nat → Prop) → World → Value → Tr → Prop} (C : Trees Rep) {w wr w1 : World} {p0 k : Nat} {pv u : Value} {t : Tr} {F G : Nat → Prop} (h : Goes Rep w wr p0 pv k t F u) (ht : Turns G wr w1) (hG : ∀ i, F i → ¬ G i) (hp : ¬ G p0) (hu : Off G u) (hw : ∀ i, G i → w.heap.size ≤ i) : Goes Rep w w1 p0 pv k t F u where
  rep := C.keep h.rep (fun i hi => ht.block i (C.low h.rep i hi) (hG i hi)) ht.size
  box := h.box.turns ht hp
  nodes := (nodes_turns h.nodes ht hu).more ht.size
  off := h.off
  offp := h.offp
  new := h.new
  len := h.len
  last := h.last
  below := h.below.trans (ht.below hw h.below.size)
  high := h.high
/-- nodes don't lie in a box of a tree -/
theorem off_box {w : World} {p B n c : Nat} {A : Option Addr} {u' : Value} {last : Int} {L : List Nd} (hb : TreeBox w p (.slice A n c) last) (hn : Nodes B w u' L) (h0 : 0 < L.length) : Off (fun k => k = p) u' := by
  obtain ⟨A', c', rfl, h1, h2⟩ := hn.form
  obtain ⟨b, o, hl, rfl, hlt, hc0, hc1, _⟩ := Nodes.at_ hn h0
  intro b' o' n' c'' e hk
  cases e
  subst hk
  rw [Nat.zero_mul, Nat.add_zero] at hc0 hc1
  have hcell : ∀ j, w.cell? ⟨b, j, none⟩ = (#[Value.slice A n c, Value.int .i64 last] : Array Value)[j]? := fun j => cell_of_row w _ j _ _ (0, 0) hb
  rw [hcell] at hc0 hc1
  match o with
  | 0 => simp at hc0
  | 1 => simp at hc1
  | o + 2 => simp at hc0
theorem box_stored2 {w : World} {p : Nat} {v u : Value} {l last : Int} (h : TreeBox w p v l) : TreeBox ((w.setCell ⟨p, 0, none⟩ u).setCell ⟨p, 1, none⟩ (.int .i64 last)) p u last := set_heap (set_heap h 0 u) 1 (.int .i64 last)
/-- an act done, and its tree laid into the box; other blocks G may have turned -/
theorem goes_next {Rep : (Nat → Prop) → World → Value → Tr → Prop} (C : Trees Rep) {w wr w8 w9 : World} {p0 k n c : Nat} {A : Option Addr} {pv u' : Value} {t t' : Tr} {F F' G : Nat → Prop} (h : Goes Rep w wr p0 pv k t F (.slice A n c)) (hn : Nodes w8.heap.size w8 u' t'.L) (hR : Rep F' w8 pv t') (ho : Off F' u') (ht : Turns F wr w8) (hF : ∀ i, F' i → F i ∨ wr.heap.size ≤ i)
    (hb : Turns G w8 w9) (hG : ∀ i, F' i → ¬ G i) (hGp : ¬ G p0) (hGu : Off G u') (hGw : ∀ i, G i → w.heap.size ≤ i)
    (hl : t'.L.length ≤ t.L.length + 1) (hl2 : t'.last ≤ t.last + 1) : Goes Rep w ((w9.setCell ⟨p0, 0, none⟩ u').setCell ⟨p0, 1, none⟩ (.int .i64 t'.last)) p0 pv (k + 1) t' F' u' := by
  have hp := h.box.lt
  have hnp : ¬ F' p0 := fun hk => by rcases hF _ hk with h1 | h1; exact h.offp h1; omega
  have b8 := h.box.turns ht h.offp
  have b9 := b8.turns hb hGp
  have tq := turns_box w9 p0 u' (.int .i64 t'.last)
  have hnew : ∀ i, F' i → w.heap.size ≤ i := fun i hi => by rcases hF i hi with h1 | h1; exact h.new i h1; exact Nat.le_trans h.below.size h1
  have r9 : Rep F' w9 pv t' := C.keep hR (fun i hi => hb.block i (C.low hR i hi) (hG i hi)) hb.size
  have h1 : Below w.heap.size w w8 := h.below.trans (ht.below h.new h.below.size)
  refine ⟨C.keep r9 (fun i hi => tq.block i (C.low r9 i hi) (fun e => hnp (by rw [← e]; exact hi))) tq.size, box_stored2 b9, ?_, ho, hnp, hnew, by have := h.len; omega, by have := h.last; omega, ?_, h.high⟩
  · exact ((nodes_turns (nodes_turns hn hb hGu) tq (off_box b8 hn (right_full (C.right hR)))).more (Nat.le_trans hb.size tq.size))
  · exact ((h1.trans (hb.below hGw h1.size)).setCell (p := ⟨p0, 0, none⟩) h.high _).setCell (p := ⟨p0, 1, none⟩) h.high _
end Go.Proofs.YtdnedeeocpaolaaDoor.W07
/-
  Layer 9 (posix), a walk of the law PosixDoes over the contracts: it returns true, at every list of tasks; nothing that was there is changed. The conditions stand in the statement.
-/
namespace Go.Proofs.YtdnedeeocpaolaaDoor.W09
open Go Go.RowKit Go.Proofs.YtdnedeeocpaolaaDoor.Strs Go.Proofs.YtdnedeeocpaolaaDoor.Recs Go.Proofs.YtdnedeeocpaolaaDoor.Range
open Go.Proofs.YtdnedeeocpaolaaDoor.M07 (Tr Nd nodeAt inDir Right listDir)
open Go.Proofs.YtdnedeeocpaolaaDoor.M08 Go.Proofs.YtdnedeeocpaolaaDoor.M09
open Go.Proofs.YtdnedeeocpaolaaDoor.W07 (Small Trees Wrote Nodes nodeV TreeBox heap_top TreeErr FromOr Off turns_box nodes_turns off_from off_same right_full)
open Go.Proofs.YtdnedeeocpaolaaDoor.W08 (Sn Snodes snC snC_len isFew few_is made)
open Go.Proofs.YtdnedeeocpaolaaDoor.Kit (ret_str ret_bool ret_int mk_of mk_bytes ba_ext below_draws on)

/-- where the loop stands: the tree, the plain tree and its box -/
structure Goes9 (Rep : (Nat → Prop) → World → Value → Tr → Prop) (w0 wr : World) (p0 : Nat) (pv : Value) (n : Nat) (t : Tr) (F : Nat → Prop) (u : Value) : Prop where
  rep : Rep F wr pv t
  box : TreeBox wr p0 u t.last
  nodes : Nodes wr.heap.size wr u t.L
  off : Off F u
  offp : ¬ F p0
  apart : Off (fun k => k = p0) u
  within : Within t n
  new : ∀ k, F k → w0.heap.size ≤ k
  pnew : w0.heap.size ≤ p0
  below : Below w0.heap.size w0 wr
theorem root_last {t : Tr} (h : Right t) : 1 ≤ t.last := by
  obtain ⟨r, hr⟩ := h.root
  exact (h.ends ⟨1, 1, [], 1, []⟩ (by rw [hr]; exact List.mem_cons_self)).2
theorem two_fits {t : Tr} {n : Nat} {w : World} {u : Value} (h : Within t n) (hn : n ≤ 1048576) (N : Nodes w.heap.size w u t.L) : Fits t w u :=
  ⟨h.fit, Nat.le_trans h.len hn, right_full h.right, by have := root_last h.right; omega, by have := h.last; omega, N⟩
/-- the cells that a round's first call reads -/
theorem five_turns {T : Nat → Prop} {w' w'' : World} {p b q : Nat} {y0 y1 y2 y3 y4 : Value} (h : w'.cell? ⟨p, 0, none⟩ = some y0 ∧ w'.cell? ⟨p, 1, none⟩ = some y1 ∧ w'.cell? ⟨b, q, none⟩ = some y2 ∧ w'.cell? ⟨b, q + 1, none⟩ = some y3 ∧ w'.cell? ⟨b, q + 2, none⟩ = some y4) (t : Turns T w' w'') (hp : ¬ T p) (hb : ¬ T b) :
    w''.cell? ⟨p, 0, none⟩ = some y0 ∧ w''.cell? ⟨p, 1, none⟩ = some y1 ∧ w''.cell? ⟨b, q, none⟩ = some y2 ∧ w''.cell? ⟨b, q + 1, none⟩ = some y3 ∧ w''.cell? ⟨b, q + 2, none⟩ = some y4 :=
  ⟨t.cell h.1 hp, t.cell h.2.1 hp, t.cell h.2.2.1 hb, t.cell h.2.2.2.1 hb, t.cell h.2.2.2.2 hb⟩
theorem five_on {w' w'' : World} {p b q : Nat} {y0 y1 y2 y3 y4 : Value} (h : w'.cell? ⟨p, 0, none⟩ = some y0 ∧ w'.cell? ⟨p, 1, none⟩ = some y1 ∧ w'.cell? ⟨b, q, none⟩ = some y2 ∧ w'.cell? ⟨b, q + 1, none⟩ = some y3 ∧ w'.cell? ⟨b, q + 2, none⟩ = some y4) (hB : Below w'.heap.size w' w'') :
    w''.cell? ⟨p, 0, none⟩ = some y0 ∧ w''.cell? ⟨p, 1, none⟩ = some y1 ∧ w''.cell? ⟨b, q, none⟩ = some y2 ∧ w''.cell? ⟨b, q + 1, none⟩ = some y3 ∧ w''.cell? ⟨b, q + 2, none⟩ = some y4 :=
  five_turns h (Turns.new (T := fun _ => False) hB) id id
/-- what stands behind a round's first call and its store -/
structure Mid (w wa w9 : World) (pQ : Nat) (u8 : Value) (T' : Tr) (u : Value) : Prop where
  below : Below wa.heap.size wa w9
  box : TreeBox w9 pQ u8 T'.last
  nodes : Nodes w9.heap.size w9 u8 T'.L
  from_ : FromOr u wa.heap.size u8
theorem Goes9.boxed {Rep : (Nat → Prop) → World → Value → Tr → Prop} (C : Trees Rep) {w0 wr wa : World} {p0 n : Nat} {pv u : Value} {t : Tr} {F : Nat → Prop} (h : Goes9 Rep w0 wr p0 pv n t F u) (hb : Below wr.heap.size wr wa) : Goes9 Rep w0 wa p0 pv n t F u :=
  ⟨C.below h.rep hb, h.box.below hb, (h.nodes.below hb).more hb.size, h.off, h.offp, h.apart, h.within, h.new, h.pnew, h.below.trans (hb.mono h.below.size)⟩
/-- behind the round's second store: the plain tree is the next one; the tree itself is still the old one -/
structure Next (Rep : (Nat → Prop) → World → Value → Tr → Prop) (w0 wr w10 : World) (p0 p8 : Nat) (pv : Value) (n : Nat) (t T' : Tr) (F : Nat → Prop) (u u8 : Value) : Prop where
  rep : Rep F w10 pv t
  box : TreeBox w10 p0 u8 T'.last
  old : TreeBox w10 p8 u t.last
  nodes : Nodes w10.heap.size w10 u8 T'.L
  olds : Nodes w10.heap.size w10 u t.L
  off : Off F u8
  below : Below w0.heap.size w0 w10
  lt : p0 < w10.heap.size
  off8 : ¬ F p8
  apart : Off (fun k => k = p0) u8
theorem Goes9.next {Rep : (Nat → Prop) → World → Value → Tr → Prop} (C : Trees Rep) {w0 wr wa w9 : World} {p0 pQ n : Nat} {pv u u8 : Value} {t T' : Tr} {F : Nat → Prop} (g : Goes9 Rep w0 wr p0 pv n t F u) (ha : wr.alloc (.cells #[u, .int .i64 t.last] 28) = wa) (m : Mid w0 wa w9 pQ u8 T' u) :
    Next Rep w0 wr ((w9.setCell ⟨p0, 0, none⟩ u8).setCell ⟨p0, 1, none⟩ (.int .i64 T'.last)) p0 wr.heap.size pv n t T' F u u8 := by
  have hba : Below wr.heap.size wr wa := by rw [← ha]; exact (Below.refl _ _).alloc (Nat.le_refl _) _
  have T8 : TreeBox wa wr.heap.size u t.last := by rw [← ha]; exact heap_top _ _
  have hsa : wa.heap.size = wr.heap.size + 1 := by rw [← ha]; exact World.size_alloc _ _
  have ga := g.boxed C hba
  have g9 := ga.boxed C m.below
  have hp0 := g.box.lt
  have hlow := C.low g.rep
  have tp := turns_box w9 p0 u8 (.int .i64 T'.last)
  have hap : Off (fun k => k = p0) u8 := off_from g.apart (fun k hk => by have : k = p0 := hk; omega) m.from_
  have h9 := m.below.size
  exact {
    rep := C.keep g9.rep (fun k hk => tp.block k (by have := hlow k hk; omega) (fun e => g.offp (by have : k = p0 := e; rw [← this]; exact hk))) tp.size
    box := W07.box_stored2 g9.box
    old := (T8.below m.below).turns tp (by omega)
    nodes := (nodes_turns m.nodes tp hap).more tp.size
    olds := (nodes_turns g9.nodes tp g.apart).more tp.size
    off := off_from g.off (fun k hk => by have := hlow k hk; omega) m.from_
    below := (g9.below.setCell g.pnew _).setCell g.pnew _
    lt := by have := tp.size; omega
    off8 := fun hk => by have := hlow _ hk; omega
    apart := hap }
/-- the round's end -/
theorem Next.goes {Rep : (Nat → Prop) → World → Value → Tr → Prop} (C : Trees Rep) {w0 wr w10 w11 w12 : World} {p0 p8 n : Nat} {pv u u8 : Value} {t T' : Tr} {F F' : Nat → Prop} (g : Goes9 Rep w0 wr p0 pv n t F u) (x : Next Rep w0 wr w10 p0 p8 pv n t T' F u u8) (k : Kept t T')
    (h1 : Rep F' w11 pv T') (h2 : Turns F w10 w11) (h3 : ∀ k, F' k → F k ∨ w10.heap.size ≤ k) (hb : Below w11.heap.size w11 w12) : Goes9 Rep w0 w12 p0 pv (n + 1) T' F' u8 :=
  have hF' : ∀ k, F' k → w0.heap.size ≤ k := fun k hk => (h3 k hk).elim (g.new k) (fun h => Nat.le_trans x.below.size h)
  { rep := C.below h1 hb
    box := (x.box.turns h2 g.offp).below hb
    nodes := ((nodes_turns x.nodes h2 x.off).more h2.size |>.below hb).more hb.size
    off := off_same x.nodes (right_full (k.right g.within.right)) x.off h3
    offp := fun hk => (h3 _ hk).elim g.offp (fun h => by have := x.lt; omega)
    apart := x.apart
    within := g.within.next k
    new := hF'
    pnew := g.pnew
    below := (x.below.trans (h2.below g.new x.below.size)).trans (hb.mono (Nat.le_trans x.below.size h2.size)) }
theorem mid_in {w wa wN : World} {pQ n c : Nat} {A : Option Addr} {l : Int} {u8 u : Value} {T' : Tr} (hb : Below wa.heap.size wa wN) (h : TreeBox wN pQ (.slice A n c) l) (hn : Nodes wN.heap.size wN u8 T'.L) (h0 : 0 < T'.L.length) (hq : wa.heap.size ≤ pQ) (hf : FromOr u wa.heap.size u8) :
    Mid w wa ((wN.setCell ⟨pQ, 0, none⟩ u8).setCell ⟨pQ, 1, none⟩ (.int .i64 T'.last)) pQ u8 T' u :=
  have ht := turns_box wN pQ u8 (.int .i64 T'.last)
  ⟨(hb.setCell hq _).setCell hq _, W07.box_stored2 h, (nodes_turns hn ht (W07.off_box h hn h0)).more ht.size, hf⟩
end Go.Proofs.YtdnedeeocpaolaaDoor.W09
