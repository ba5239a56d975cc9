/-
  Texts joined, in build order, each with its own comment and its own conditions: W07Goes, W09Does.
-/
import Derived.Test.YtdnedeeocpaolaaGreatDoorJ19
import Derived.Test.YtdnedeeocpaolaaGreatDoorJ15
import Derived.Test.YtdnedeeocpaolaaGreatDoorJ12
/-
  Layer 7 (tree), a walk of the law TreeDoes over the contracts: it returns true, at every list of acts; nothing that was there is changed.
-/
namespace Go.Proofs.YtdnedeeocpaolaaGreatDoor.W07
open Go Go.RowKit Go.Proofs.YtdnedeeocpaolaaGreatDoor.Strs Go.Proofs.YtdnedeeocpaolaaGreatDoor.Recs Go.Proofs.YtdnedeeocpaolaaGreatDoor.M07 Go.Proofs.YtdnedeeocpaolaaGreatDoor.Range
open Go.Proofs.YtdnedeeocpaolaaGreatDoor.Kit (ret_str ret_bool ret_int mk_of mk_bytes ba_ext below_draws on)

theorem put_more (t : Tr) (d : Int) (s : Bytes) (k : Int) (x : Bytes) : (put t d s k x).1.L.length ≤ t.L.length + 1 ∧ (put t d s k x).1.last ≤ t.last + 1 := by
  unfold put
  split
  · exact ⟨by show t.L.length ≤ _; omega, by show t.last ≤ _; omega⟩
  · exact ⟨by show (t.L ++ [_]).length ≤ _; simp, by show t.last + 1 ≤ _; omega⟩
theorem set_more (t : Tr) (n : Int) (x : Bytes) : (M07.set t n x).1.L.length ≤ t.L.length + 1 ∧ (M07.set t n x).1.last ≤ t.last + 1 := by
  have e : t.L.length ≤ t.L.length + 1 ∧ t.last ≤ t.last + 1 := ⟨by omega, by omega⟩
  unfold M07.set
  split
  · exact e
  · split
    · exact e
    · split
      · exact e
      · exact ⟨by show (t.L.map _).length ≤ _; rw [List.length_map]; omega, by show t.last ≤ _; omega⟩
theorem cut_more (t : Tr) (d : Int) (s : Bytes) : (cut t d s).1.L.length ≤ t.L.length + 1 ∧ (cut t d s).1.last ≤ t.last + 1 := ⟨by have := cut_len t d s; omega, by rw [cut_last]; omega⟩
theorem move_more (t : Tr) (src : Int) (s : Bytes) (dst : Int) (a : Bytes) : (M07.move t src s dst a).1.L.length ≤ t.L.length + 1 ∧ (M07.move t src s dst a).1.last ≤ t.last + 1 := by
  have e : t.L.length ≤ t.L.length + 1 ∧ t.last ≤ t.last + 1 := ⟨by omega, by omega⟩
  have pl : ∀ (u : Tr) (x : Nd), u.L.length ≤ t.L.length → u.last = t.last → (placed u x dst a).L.length ≤ t.L.length + 1 ∧ (placed u x dst a).last ≤ t.last + 1 := fun u x h1 h2 =>
    ⟨by show (u.L.map _).length ≤ _; rw [List.length_map]; omega, by show u.last ≤ _; omega⟩
  unfold M07.move
  split
  · exact e
  · split
    · exact e
    · unfold moveOn
      split
      · exact e
      · split
        · split
          · exact e
          · split
            · exact e
            · split
              · exact e
              · exact pl _ _ (cut_len _ _ _) (cut_last _ _ _)
        · exact pl _ _ (Nat.le_refl _) rfl
theorem doAct_more (t : Tr) (act dir dst : Int) (nm al : Bytes) (kind : Int) (dt : Bytes) : (doAct t act dir dst nm al kind dt).L.length ≤ t.L.length + 1 ∧ (doAct t act dir dst nm al kind dt).last ≤ t.last + 1 := by
  unfold doAct
  split
  · exact put_more _ _ _ _ _
  · split
    · exact set_more _ _ _
    · split
      · exact cut_more _ _ _
      · split
        · exact move_more _ _ _ _ _
        · exact ⟨by omega, by omega⟩
/-- what is held between two rounds -/
structure Goes (Rep : (Nat → Prop) → World → Value → Tr → Prop) (w wr : World) (p0 : Nat) (pv : Value) (k : Nat) (t : Tr) (F : Nat → Prop) (u : Value) : Prop where
  rep : Rep F wr pv t
  box : TreeBox wr p0 u t.last
  nodes : Nodes wr.heap.size wr u t.L
  off : Off F u
  offp : ¬ F p0
  new : ∀ i, F i → w.heap.size ≤ i
  len : t.L.length ≤ k + 1
  last : t.last ≤ k + 1
  below : Below w.heap.size w wr
  high : w.heap.size ≤ p0
theorem short_data {l : List Ac} (h : isShort l = true) {k : Nat} (hk : k < l.length) : (l[k]).data.length ≤ 70000 := by
  unfold isShort at h
  rw [Bool.and_eq_true] at h
  have := List.all_eq_true.1 h.1 _ (List.getElem_mem hk)
  simpa using this
theorem short_len {l : List Ac} (h : isShort l = true) : l.length ≤ 60 := by
  unfold isShort at h
  rw [Bool.and_eq_true] at h
  simpa using h.2
/-- a copy takes the tree's place, and acts are done to the old one -/
theorem goes_copy {Rep : (Nat → Prop) → World → Value → Tr → Prop} (C : Trees Rep) {w wr w1 : World} {p0 k : Nat} {pv v' u : Value} {t : Tr} {F F' : Nat → Prop} (h : Goes Rep w wr p0 pv k t F u) (hR : Rep F' w1 v' t) (hF : ∀ i, F' i → wr.heap.size ≤ i) (hb : Below wr.heap.size wr w1) : Goes Rep w w1 p0 v' k t F' u where
  rep := hR
  box := h.box.below hb
  nodes := (h.nodes.below hb).more hb.size
  off := by
    intro b o n c e hk
    subst e
    by_cases h0 : 0 < t.L.length
    · have hn : n = t.L.length := by obtain ⟨A', c', e', _⟩ := h.nodes; injection e'
      obtain ⟨b', o', _, e2, hlt, _⟩ := Nodes.at_ h.nodes (k := 0) (by omega)
      cases e2
      have := hF _ hk
      omega
    · exact absurd (right_full (C.right h.rep)) h0
  offp := fun hk => by have := hF _ hk; have := h.box.lt; omega
  new := fun i hi => Nat.le_trans h.below.size (hF i hi)
  len := h.len
  last := h.last
  below := on h.below hb
  high := h.high
/-- what is written in other blocks leaves all this -/
theorem goes_other {Rep : (Nat → Prop) → World → Value → Tr → Prop} (C : Trees Rep) {w wr w1 : World} {p0 k : Nat} {pv u : Value} {t : Tr} {F G : Nat → Prop} (h : Goes Rep w wr p0 pv k t F u) (ht : Turns G wr w1) (hG : ∀ i, F i → ¬ G i) (hp : ¬ G p0) (hu : Off G u) (hw : ∀ i, G i → w.heap.size ≤ i) : Goes Rep w w1 p0 pv k t F u where
  rep := C.keep h.rep (fun i hi => ht.block i (C.low h.rep i hi) (hG i hi)) ht.size
  box := h.box.turns ht hp
  nodes := (nodes_turns h.nodes ht hu).more ht.size
  off := h.off
  offp := h.offp
  new := h.new
  len := h.len
  last := h.last
  below := h.below.trans (ht.below hw h.below.size)
  high := h.high
/-- nodes don't lie in a box of a tree -/
theorem off_box {w : World} {p B n c : Nat} {A : Option Addr} {u' : Value} {last : Int} {L : List Nd} (hb : TreeBox w p (.slice A n c) last) (hn : Nodes B w u' L) (h0 : 0 < L.length) : Off (fun k => k = p) u' := by
  obtain ⟨A', c', rfl, h1, h2⟩ := hn.form
  obtain ⟨b, o, hl, rfl, hlt, hc0, hc1, _⟩ := Nodes.at_ hn h0
  intro b' o' n' c'' e hk
  cases e
  subst hk
  rw [Nat.zero_mul, Nat.add_zero] at hc0 hc1
  have hcell : ∀ j, w.cell? ⟨b, j, none⟩ = (#[Value.slice A n c, Value.int .i64 last] : Array Value)[j]? := fun j => cell_of_row w _ j _ _ (0, 0) hb
  rw [hcell] at hc0 hc1
  match o with
  | 0 => simp at hc0
  | 1 => simp at hc1
  | o + 2 => simp at hc0
theorem box_stored2 {w : World} {p : Nat} {v u : Value} {l last : Int} (h : TreeBox w p v l) : TreeBox ((w.setCell ⟨p, 0, none⟩ u).setCell ⟨p, 1, none⟩ (.int .i64 last)) p u last := set_heap (set_heap h 0 u) 1 (.int .i64 last)
/-- an act done, and its tree laid into the box; other blocks G may have turned -/
theorem goes_next {Rep : (Nat → Prop) → World → Value → Tr → Prop} (C : Trees Rep) {w wr w8 w9 : World} {p0 k n c : Nat} {A : Option Addr} {pv u' : Value} {t t' : Tr} {F F' G : Nat → Prop} (h : Goes Rep w wr p0 pv k t F (.slice A n c)) (hn : Nodes w8.heap.size w8 u' t'.L) (hR : Rep F' w8 pv t') (ho : Off F' u') (ht : Turns F wr w8) (hF : ∀ i, F' i → F i ∨ wr.heap.size ≤ i)
    (hb : Turns G w8 w9) (hG : ∀ i, F' i → ¬ G i) (hGp : ¬ G p0) (hGu : Off G u') (hGw : ∀ i, G i → w.heap.size ≤ i)
    (hl : t'.L.length ≤ t.L.length + 1) (hl2 : t'.last ≤ t.last + 1) : Goes Rep w ((w9.setCell ⟨p0, 0, none⟩ u').setCell ⟨p0, 1, none⟩ (.int .i64 t'.last)) p0 pv (k + 1) t' F' u' := by
  have hp := h.box.lt
  have hnp : ¬ F' p0 := fun hk => by rcases hF _ hk with h1 | h1; exact h.offp h1; omega
  have b8 := h.box.turns ht h.offp
  have b9 := b8.turns hb hGp
  have tq := turns_box w9 p0 u' (.int .i64 t'.last)
  have hnew : ∀ i, F' i → w.heap.size ≤ i := fun i hi => by rcases hF i hi with h1 | h1; exact h.new i h1; exact Nat.le_trans h.below.size h1
  have r9 : Rep F' w9 pv t' := C.keep hR (fun i hi => hb.block i (C.low hR i hi) (hG i hi)) hb.size
  have h1 : Below w.heap.size w w8 := h.below.trans (ht.below h.new h.below.size)
  refine ⟨C.keep r9 (fun i hi => tq.block i (C.low r9 i hi) (fun e => hnp (by rw [← e]; exact hi))) tq.size, box_stored2 b9, ?_, ho, hnp, hnew, by have := h.len; omega, by have := h.last; omega, ?_, h.high⟩
  · exact ((nodes_turns (nodes_turns hn hb hGu) tq (off_box b8 hn (right_full (C.right hR)))).more (Nat.le_trans hb.size tq.size))
  · exact ((h1.trans (hb.below hGw h1.size)).setCell (p := ⟨p0, 0, none⟩) h.high _).setCell (p := ⟨p0, 1, none⟩) h.high _
end Go.Proofs.YtdnedeeocpaolaaGreatDoor.W07
/-
  Layer 9 (posix), a walk of the law PosixDoes over the contracts: it returns true, at every list of tasks; nothing that was there is changed. The conditions stand in the statement.
-/
namespace Go.Proofs.YtdnedeeocpaolaaGreatDoor.W09
set_option maxRecDepth 100000
open Go Go.RowKit Go.Proofs.YtdnedeeocpaolaaGreatDoor.Strs Go.Proofs.YtdnedeeocpaolaaGreatDoor.Recs Go.Proofs.YtdnedeeocpaolaaGreatDoor.Range
open Go.Proofs.YtdnedeeocpaolaaGreatDoor.M07 (Tr Nd nodeAt inDir Right listDir)
open Go.Proofs.YtdnedeeocpaolaaGreatDoor.M08 Go.Proofs.YtdnedeeocpaolaaGreatDoor.M09
open Go.Proofs.YtdnedeeocpaolaaGreatDoor.W07 (Small Trees Wrote Nodes nodeV TreeBox heap_top TreeErr FromOr Off turns_box nodes_turns off_from off_same right_full same_tree)
open Go.Proofs.YtdnedeeocpaolaaGreatDoor.W08 (Sn Snodes snC snC_len isFew few_is made)
open Go.Proofs.YtdnedeeocpaolaaGreatDoor.Kit (ret_str ret_bool ret_int mk_of mk_bytes ba_ext below_draws on)

/-- where the loop stands: the tree, the plain tree and its box -/
structure Goes9 (Rep : (Nat → Prop) → World → Value → Tr → Prop) (w0 wr : World) (p0 : Nat) (pv : Value) (n : Nat) (t : Tr) (F : Nat → Prop) (u : Value) : Prop where
  rep : Rep F wr pv t
  box : TreeBox wr p0 u t.last
  nodes : Nodes wr.heap.size wr u t.L
  off : Off F u
  offp : ¬ F p0
  apart : Off (fun k => k = p0) u
  within : Within t n
  new : ∀ k, F k → w0.heap.size ≤ k
  pnew : w0.heap.size ≤ p0
  below : Below w0.heap.size w0 wr
theorem root_last {t : Tr} (h : Right t) : 1 ≤ t.last := by
  obtain ⟨r, hr⟩ := h.root
  exact (h.ends ⟨1, 1, [], 1, []⟩ (by rw [hr]; exact List.mem_cons_self)).2
theorem two_fits {t : Tr} {n : Nat} {w : World} {u : Value} (h : Within t n) (hn : n ≤ 1048576) (N : Nodes w.heap.size w u t.L) : Fits t w u :=
  ⟨h.fit, Nat.le_trans h.len hn, right_full h.right, by have := root_last h.right; omega, by have := h.last; omega, N⟩
/-- the cells that a round's first call reads -/
theorem five_turns {T : Nat → Prop} {w' w'' : World} {p b q : Nat} {y0 y1 y2 y3 y4 : Value} (h : w'.cell? ⟨p, 0, none⟩ = some y0 ∧ w'.cell? ⟨p, 1, none⟩ = some y1 ∧ w'.cell? ⟨b, q, none⟩ = some y2 ∧ w'.cell? ⟨b, q + 1, none⟩ = some y3 ∧ w'.cell? ⟨b, q + 2, none⟩ = some y4) (t : Turns T w' w'') (hp : ¬ T p) (hb : ¬ T b) :
    w''.cell? ⟨p, 0, none⟩ = some y0 ∧ w''.cell? ⟨p, 1, none⟩ = some y1 ∧ w''.cell? ⟨b, q, none⟩ = some y2 ∧ w''.cell? ⟨b, q + 1, none⟩ = some y3 ∧ w''.cell? ⟨b, q + 2, none⟩ = some y4 :=
  ⟨t.cell h.1 hp, t.cell h.2.1 hp, t.cell h.2.2.1 hb, t.cell h.2.2.2.1 hb, t.cell h.2.2.2.2 hb⟩
theorem five_on {w' w'' : World} {p b q : Nat} {y0 y1 y2 y3 y4 : Value} (h : w'.cell? ⟨p, 0, none⟩ = some y0 ∧ w'.cell? ⟨p, 1, none⟩ = some y1 ∧ w'.cell? ⟨b, q, none⟩ = some y2 ∧ w'.cell? ⟨b, q + 1, none⟩ = some y3 ∧ w'.cell? ⟨b, q + 2, none⟩ = some y4) (hB : Below w'.heap.size w' w'') :
    w''.cell? ⟨p, 0, none⟩ = some y0 ∧ w''.cell? ⟨p, 1, none⟩ = some y1 ∧ w''.cell? ⟨b, q, none⟩ = some y2 ∧ w''.cell? ⟨b, q + 1, none⟩ = some y3 ∧ w''.cell? ⟨b, q + 2, none⟩ = some y4 :=
  five_turns h (Turns.new (T := fun _ => False) hB) id id
/-- what stands behind a round's first call and its store -/
structure Mid (w wa w9 : World) (pQ : Nat) (u8 : Value) (T' : Tr) (u : Value) : Prop where
  below : Below wa.heap.size wa w9
  box : TreeBox w9 pQ u8 T'.last
  nodes : Nodes w9.heap.size w9 u8 T'.L
  from_ : FromOr u wa.heap.size u8
theorem Goes9.boxed {Rep : (Nat → Prop) → World → Value → Tr → Prop} (C : Trees Rep) {w0 wr wa : World} {p0 n : Nat} {pv u : Value} {t : Tr} {F : Nat → Prop} (h : Goes9 Rep w0 wr p0 pv n t F u) (hb : Below wr.heap.size wr wa) : Goes9 Rep w0 wa p0 pv n t F u :=
  ⟨C.below h.rep hb, h.box.below hb, (h.nodes.below hb).more hb.size, h.off, h.offp, h.apart, h.within, h.new, h.pnew, h.below.trans (hb.mono h.below.size)⟩
/-- behind the round's second store: the plain tree is the next one; the tree itself is still the old one -/
structure Next (Rep : (Nat → Prop) → World → Value → Tr → Prop) (w0 wr w10 : World) (p0 p8 : Nat) (pv : Value) (n : Nat) (t T' : Tr) (F : Nat → Prop) (u u8 : Value) : Prop where
  rep : Rep F w10 pv t
  box : TreeBox w10 p0 u8 T'.last
  old : TreeBox w10 p8 u t.last
  nodes : Nodes w10.heap.size w10 u8 T'.L
  olds : Nodes w10.heap.size w10 u t.L
  off : Off F u8
  below : Below w0.heap.size w0 w10
  lt : p0 < w10.heap.size
  off8 : ¬ F p8
  apart : Off (fun k => k = p0) u8
theorem Goes9.next {Rep : (Nat → Prop) → World → Value → Tr → Prop} (C : Trees Rep) {w0 wr wa w9 : World} {p0 pQ n : Nat} {pv u u8 : Value} {t T' : Tr} {F : Nat → Prop} (g : Goes9 Rep w0 wr p0 pv n t F u) (ha : wr.alloc (.cells #[u, .int .i64 t.last] 30) = wa) (m : Mid w0 wa w9 pQ u8 T' u) :
    Next Rep w0 wr ((w9.setCell ⟨p0, 0, none⟩ u8).setCell ⟨p0, 1, none⟩ (.int .i64 T'.last)) p0 wr.heap.size pv n t T' F u u8 := by
  have hba : Below wr.heap.size wr wa := by rw [← ha]; exact (Below.refl _ _).alloc (Nat.le_refl _) _
  have T8 : TreeBox wa wr.heap.size u t.last := by rw [← ha]; exact heap_top _ _
  have hsa : wa.heap.size = wr.heap.size + 1 := by rw [← ha]; exact World.size_alloc _ _
  have ga := g.boxed C hba
  have g9 := ga.boxed C m.below
  have hp0 := g.box.lt
  have hlow := C.low g.rep
  have tp := turns_box w9 p0 u8 (.int .i64 T'.last)
  have hap : Off (fun k => k = p0) u8 := off_from g.apart (fun k hk => by have : k = p0 := hk; omega) m.from_
  have h9 := m.below.size
  exact {
    rep := C.keep g9.rep (fun k hk => tp.block k (by have := hlow k hk; omega) (fun e => g.offp (by have : k = p0 := e; rw [← this]; exact hk))) tp.size
    box := W07.box_stored2 g9.box
    old := (T8.below m.below).turns tp (by omega)
    nodes := (nodes_turns m.nodes tp hap).more tp.size
    olds := (nodes_turns g9.nodes tp g.apart).more tp.size
    off := off_from g.off (fun k hk => by have := hlow k hk; omega) m.from_
    below := (g9.below.setCell g.pnew _).setCell g.pnew _
    lt := by have := tp.size; omega
    off8 := fun hk => by have := hlow _ hk; omega
    apart := hap }
/-- the round's end -/
theorem Next.goes {Rep : (Nat → Prop) → World → Value → Tr → Prop} (C : Trees Rep) {w0 wr w10 w11 w12 : World} {p0 p8 n : Nat} {pv u u8 : Value} {t T' : Tr} {F F' : Nat → Prop} (g : Goes9 Rep w0 wr p0 pv n t F u) (x : Next Rep w0 wr w10 p0 p8 pv n t T' F u u8) (k : Kept t T')
    (h1 : Rep F' w11 pv T') (h2 : Turns F w10 w11) (h3 : ∀ k, F' k → F k ∨ w10.heap.size ≤ k) (hb : Below w11.heap.size w11 w12) : Goes9 Rep w0 w12 p0 pv (n + 1) T' F' u8 :=
  have hF' : ∀ k, F' k → w0.heap.size ≤ k := fun k hk => (h3 k hk).elim (g.new k) (fun h => Nat.le_trans x.below.size h)
  { rep := C.below h1 hb
    box := (x.box.turns h2 g.offp).below hb
    nodes := ((nodes_turns x.nodes h2 x.off).more h2.size |>.below hb).more hb.size
    off := off_same x.nodes (right_full (k.right g.within.right)) x.off h3
    offp := fun hk => (h3 _ hk).elim g.offp (fun h => by have := x.lt; omega)
    apart := x.apart
    within := g.within.next k
    new := hF'
    pnew := g.pnew
    below := (x.below.trans (h2.below g.new x.below.size)).trans (hb.mono (Nat.le_trans x.below.size h2.size)) }
theorem mid_in {w wa wN : World} {pQ n c : Nat} {A : Option Addr} {l : Int} {u8 u : Value} {T' : Tr} (hb : Below wa.heap.size wa wN) (h : TreeBox wN pQ (.slice A n c) l) (hn : Nodes wN.heap.size wN u8 T'.L) (h0 : 0 < T'.L.length) (hq : wa.heap.size ≤ pQ) (hf : FromOr u wa.heap.size u8) :
    Mid w wa ((wN.setCell ⟨pQ, 0, none⟩ u8).setCell ⟨pQ, 1, none⟩ (.int .i64 T'.last)) pQ u8 T' u :=
  have ht := turns_box wN pQ u8 (.int .i64 T'.last)
  ⟨(hb.setCell hq _).setCell hq _, W07.box_stored2 h, (nodes_turns hn ht (W07.off_box h hn h0)).more ht.size, hf⟩
set_option maxHeartbeats 16000000 in
theorem posixDoes_over {Rep : (Nat → Prop) → World → Value → Tr → Prop} (C : Trees Rep) (S : Posix Rep) (w : World) (v y : Value) (L : List Sn) (h : Snodes w.heap.size w v L) (K : List Tk) (hK : Tasks w.heap.size w y K) :
    Calls Tryz.prog 3 #[v, y] w fun e w' => e = .returned (.bool true) ∧ Below w.heap.size w w' := by
  have HFW := Lib.hid (W08.few_any v L w.heap.size w h)
  have HSW := Lib.hid (short9_any y K 40 w.heap.size w hK)
  have HL := Lib.hid (fun w' => lives9_over C S w')
  have HH := Lib.hid h
  have HK := Lib.hid hK
  obtain ⟨A, c, rfl, -, -⟩ := h.form
  obtain ⟨A2, c2, rfl, hk1, hk2⟩ := hK.form
  unfold maxLen at hk2
  clear h hK
  generalize hm : L.length = m at *
  cases hf : isFew L with
  | false =>
    rw [hf] at HFW
    clear hf hm
    go_enter Tryz.func3, Tryz.ntmps3
    go_wp2_with fail
    refine HFW.out.mono ?_
    rintro e w1 ⟨rfl, hw⟩
    have hw := hw.symm
    subst hw
    go_wp2_with fail
    refine (HL.out _).mono ?_
    rintro e w2 ⟨rfl, hb⟩
    go_wp2_with fail
    go_ret
    exact ⟨rfl, hb⟩
  | true =>
    rw [hf] at HFW
    obtain ⟨hd, hl⟩ := few_is hf
    cases hs : isShort9 K 40 with
    | false =>
      rw [hs] at HSW
      clear hf hm hs hd hl
      go_enter Tryz.func3, Tryz.ntmps3
      go_wp2_with fail
      refine HFW.out.mono ?_
      rintro e w1 ⟨rfl, hw⟩
      have hw := hw.symm
      subst hw
      go_wp2_with fail
      refine HSW.out.mono ?_
      rintro e w1 ⟨rfl, hw⟩
      have hw := hw.symm
      subst hw
      go_wp2_with fail
      refine (HL.out _).mono ?_
      rintro e w2 ⟨rfl, hb⟩
      go_wp2_with fail
      go_ret
      exact ⟨rfl, hb⟩
    | true =>
      rw [hs] at HSW
      obtain ⟨hsd, hsl⟩ := short9_is hs
      have HSD := Lib.hid hsd
      have HM := W08.made_over3 C w (.slice A m c) L HH.out hl hd
      have HWI := Lib.hid (made_within hl)
      generalize (W08.made L).1 = T0 at *
      have HM := Lib.hid HM
      clear hf hm hs hd hl hsd
      generalize hq : K.length = q at *
      have HQ := Lib.hid hq
      clear hq
      go_enter Tryz.func3, Tryz.ntmps3
      go_wp2_with fail
      refine HFW.out.mono ?_
      rintro e w1 ⟨rfl, hw⟩
      have hw := hw.symm
      subst hw
      go_wp2_with fail
      refine HSW.out.mono ?_
      rintro e w1 ⟨rfl, hw⟩
      have hw := hw.symm
      subst hw
      go_wp2_with fail
      refine HM.out.mono ?_
      rintro e w2 ⟨pv, u, F0, rfl, hrep, hn, hF0, hb, hcl⟩
      obtain ⟨Au, cu, rfl, -, -⟩ := hn.form
      obtain ⟨p0, hp0⟩ : ∃ p, w2.heap.size = p := ⟨_, rfl⟩
      obtain ⟨w3, hw3⟩ : ∃ w3, w2.alloc (.cells #[.slice Au T0.L.length cu, .int .i64 T0.last] 30) = w3 := ⟨_, rfl⟩
      have ha : Below w2.heap.size w2 w3 := by rw [← hw3]; exact (Below.refl _ _).alloc (Nat.le_refl _) _
      have G0 : Hid (Goes9 Rep w w3 p0 pv (61 + 0) T0 F0 (.slice Au T0.L.length cu)) := by
        have hlw := C.low hrep
        have hr := right_full HWI.out.right
        exact ⟨C.below hrep ha, by rw [← hp0, ← hw3]; exact heap_top _ _, (hn.below ha).more ha.size, hcl, fun hk => by have := hlw _ hk; omega, off_nodes hn hr (fun k hk => by have : k = p0 := hk; omega), HWI.out, hF0, by rw [← hp0]; exact hb.size, on hb ha⟩
      go_wp2_with fail
      clear hw3 hp0 ha hn hb hF0 hrep HM hcl HFW HSW
      go_loopw [7] (fun u7 wr => ∃ (k : Nat) (t : Tr) (F : Nat → Prop) (u : Value), u7 = .int .i64 k ∧ k ≤ q ∧ Hid (Goes9 Rep w wr p0 pv (61 + k) t F u)) (fun u7 _ => q - (intOf u7).toNat)
      case atStart => exact ⟨0, _, _, _, rfl, Nat.zero_le _, G0.out⟩
      case round =>
        clear G0
        obtain ⟨k, t, F, u, rfl, hk, hg⟩ := hrel
        by_cases hlt : k < q
        · obtain ⟨b, o, hl1, rfl, hbl, a0, a1, a2⟩ := Tasks.at_ (HK.out.below hg.out.below) hlt
          have hxd := HSD.out _ (List.getElem_mem hl1)
          generalize K[k] = x at *
          obtain ⟨xk, xp, xt⟩ := x
          obtain ⟨sp, hsp⟩ : ∃ d : ByteArray, d.data.toList = xp := ⟨⟨xp.toArray⟩, rfl⟩
          obtain ⟨st, hst⟩ : ∃ d : ByteArray, d.data.toList = xt := ⟨⟨xt.toArray⟩, rfl⟩
          subst hsp hst
          have a0 : wr.cell? ⟨b, o + k * 3, none⟩ = some (.int .i64 xk) := a0
          have a1 : wr.cell? ⟨b, o + k * 3 + 1, none⟩ = some (.string sp) := by have := a1; rw [mk_bytes] at this; exact this
          have a2 : wr.cell? ⟨b, o + k * 3 + 2, none⟩ = some (.string st) := by have := a2; rw [mk_bytes] at this; exact this
          have hps : sp.size ≤ 1048576 := by have := hxd.1; rw [← Lib.size_eq] at this; omega
          have hts : st.size ≤ 1048576 := by have := hxd.2; rw [← Lib.size_eq] at this; omega
          obtain ⟨Au, cu, hue, hu1, hu2⟩ := hg.out.nodes.form
          subst hue
          unfold maxLen at hu2
          have hnn : 61 + k ≤ 1048576 := by omega
          have hbs := hg.out.below.size
          have hp0 := hg.out.box.lt
          obtain ⟨wa, hwa⟩ : ∃ wa : World, wr.alloc (.cells #[.slice Au t.L.length cu, .int .i64 t.last] 30) = wa := ⟨_, rfl⟩
          have hba : Below wr.heap.size wr wa := by rw [← hwa]; exact (Below.refl _ _).alloc (Nat.le_refl _) _
          have HZ1 : Hid (wa.heap.size = wr.heap.size + 1) := by show _ = _; rw [← hwa]; exact World.size_alloc _ _
          have hlt1 : wr.heap.size < wa.heap.size := by have := HZ1.out; omega
          have GA := Lib.hid (hg.out.boxed C hba)
          have ca := five_on (w' := wr) (p := p0) (b := b) (q := o + k * 3) ⟨hg.out.box.c0, hg.out.box.c1, a0, a1, a2⟩ hba
          obtain ⟨wA, hwA⟩ : ∃ wA : World, wa.alloc (.cells #[.slice none 0 0, .int .i64 0] 30) = wA := ⟨_, rfl⟩
          have hbA : Below wa.heap.size wa wA := by rw [← hwA]; exact (Below.refl _ _).alloc (Nat.le_refl _) _
          have hlt2 : wa.heap.size < wA.heap.size := by have : wA.heap.size = wa.heap.size + 1 := (by rw [← hwA]; exact World.size_alloc _ _); omega
          have TBA : TreeBox wA wa.heap.size (.slice none 0 0) 0 := by rw [← hwA]; exact heap_top _ _
          have cA := five_on ca hbA
          have HFA : Fits t (wA.drewN 1) (.slice Au t.L.length cu) := two_fits (w := wA.drewN 1) GA.out.within hnn ((GA.out.nodes.below hbA).more hbA.size)
          have HFW : Fits t (wa.drewN 1) (.slice Au t.L.length cu) := two_fits (w := wa.drewN 1) GA.out.within hnn GA.out.nodes
          have HDA := Lib.hid (refDo9_any t _ (wA.drewN 1) HFA GA.out.within.right xk sp st (by unfold maxLen; omega))
          have HDW := Lib.hid (refDo9_any t _ (wa.drewN 1) HFW GA.out.within.right xk sp st (by unfold maxLen; omega))
          have HDO := Lib.hid (fun (F' : Nat → Prop) (w' : World) (P : Rep F' w' pv t) => do9_any C S P (GA.out.within.good hnn) xk sp st hps hts)
          have HKP := Lib.hid (kept_do t xk sp.data.toList st.data.toList)
          have HER := Lib.hid (@do_err t xk sp.data.toList st.data.toList)
          generalize doTask t xk sp.data.toList st.data.toList = R at *
          obtain ⟨T', fe⟩ := R
          have HKP : Hid (Kept t T') := HKP.out
          have HER : Hid (fe ≠ 0 → T' = t) := HER.out
          obtain ⟨c0, c1, e0, e1, e2⟩ := ca
          obtain ⟨x0, x1, y0, y1, y2⟩ := cA
          have hb0 : (0 : Int) ≤ (k : Int) := by omega
          have hb1 : (k : Int) < (q : Int) := by omega
          have r0 := hg.out.box.c0
          have r1 := hg.out.box.c1
          clear HFA HFW
          go_wp2_with fail
          clear r0 r1
          go_region_held3 (fun w' => w'.cell? ⟨p0, 0, none⟩ = some (.slice Au t.L.length cu) ∧ w'.cell? ⟨p0, 1, none⟩ = some (.int .i64 t.last) ∧ w'.cell? ⟨b, o + k * 3, none⟩ = some (.int .i64 xk) ∧ w'.cell? ⟨b, o + k * 3 + 1, none⟩ = some (.string sp) ∧ w'.cell? ⟨b, o + k * 3 + 2, none⟩ = some (.string st))
            (first | exact F5 | exact FN | exact F8 | exact ⟨x0, x1, y0, y1, y2⟩ | exact ⟨c0, c1, e0, e1, e2⟩ | go_keep)
            (first
              | (go_at_call 9; refine HDA.out.mono ?_; rintro e w8 ⟨u8, rfl, hn8, hb8, hf8⟩; obtain ⟨A8, c8, hue8, -, -⟩ := hn8.form; subst hue8; have hb8' : Below wA.heap.size wA w8 := (below_draws wA 1).trans hb8; have F8 := five_on (w' := wA) (p := p0) (b := b) (q := o + k * 3) ⟨x0, x1, y0, y1, y2⟩ hb8'; obtain ⟨pQ, hpQ⟩ : ∃ p, wa.heap.size = p := ⟨_, rfl⟩; have TBN : TreeBox w8 pQ (.slice none 0 0) 0 := (by rw [← hpQ]; exact TBA.below hb8'); have m0 := TBN.c0; have m1 := TBN.c1; have v0 := TBN.fr 0; have v1 := TBN.fr 1; obtain ⟨w9, hw9⟩ : ∃ w', (w8.setCell ⟨pQ, 0, none⟩ (.slice A8 T'.L.length c8)).setCell ⟨pQ, 1, none⟩ (.int .i64 T'.last) = w' := ⟨_, rfl⟩; have F5 := five_turns F8 (show Turns (fun i => i = pQ) w8 w9 by rw [← hw9]; exact turns_box _ _ _ _) (by omega) (by omega); have MID := Lib.hid (show Mid w wa w9 pQ (.slice A8 T'.L.length c8) T' (.slice Au t.L.length cu) by rw [← hw9]; exact mid_in (hbA.trans (hb8'.mono (by omega))) TBN hn8 (right_full (HKP.out.right GA.out.within.right)) (by omega) (FromOr.low hf8 (by show _ ≤ wA.heap.size; omega))))
              | (go_at_call 9; refine HDW.out.mono ?_; rintro e w8 ⟨u8, rfl, hn8, hb8, hf8⟩; obtain ⟨A8, c8, hue8, -, -⟩ := hn8.form; subst hue8; have hb8' : Below wa.heap.size wa w8 := (below_draws wa 1).trans hb8; have F8 := five_on (w' := wa) (p := p0) (b := b) (q := o + k * 3) ⟨c0, c1, e0, e1, e2⟩ hb8'; have hz8 := hb8'.size; obtain ⟨pQ, hpQ⟩ : ∃ p, w8.heap.size = p := ⟨_, rfl⟩; obtain ⟨wN, hwN⟩ : ∃ w', w8.alloc (.cells #[.slice none 0 0, .int .i64 0] 30) = w' := ⟨_, rfl⟩; have hbN : Below w8.heap.size w8 wN := (by rw [← hwN]; exact (Below.refl _ _).alloc (Nat.le_refl _) _); have TBN : TreeBox wN pQ (.slice none 0 0) 0 := (by rw [← hpQ, ← hwN]; exact heap_top _ _); have FN := five_on F8 hbN; have m0 := TBN.c0; have m1 := TBN.c1; have v0 := TBN.fr 0; have v1 := TBN.fr 1; obtain ⟨w9, hw9⟩ : ∃ w', (wN.setCell ⟨pQ, 0, none⟩ (.slice A8 T'.L.length c8)).setCell ⟨pQ, 1, none⟩ (.int .i64 T'.last) = w' := ⟨_, rfl⟩; have F5 := five_turns FN (show Turns (fun i => i = pQ) wN w9 by rw [← hw9]; exact turns_box _ _ _ _) (by omega) (by omega); have MID := Lib.hid (show Mid w wa w9 pQ (.slice A8 T'.L.length c8) T' (.slice Au t.L.length cu) by rw [← hw9]; exact mid_in (on hb8' hbN) TBN ((hn8.below hbN).more hbN.size) (right_full (HKP.out.right GA.out.within.right)) (by omega) (FromOr.low hf8 (by show _ ≤ wa.heap.size; omega)))))
          all_goals (
            have n0 := MID.out.box.c0
            have n1 := MID.out.box.c1
            have G9 := Lib.hid (GA.out.boxed C MID.out.below)
            have r0 := G9.out.box.c0
            have r1 := G9.out.box.c1
            have z0 := G9.out.box.fr 0
            have z1 := G9.out.box.fr 1
            have NX := hg.out.next C hwa MID.out
            obtain ⟨w10, hw10⟩ : ∃ w', (w9.setCell ⟨p0, 0, none⟩ (.slice A8 T'.L.length c8)).setCell ⟨p0, 1, none⟩ (.int .i64 T'.last) = w' := ⟨_, rfl⟩
            rw [hw10] at NX
            have NX := Lib.hid NX
            have t10 : Turns (fun i => i = p0) w9 w10 := by rw [← hw10]; exact turns_box _ _ _ _
            have hbp : ¬ b = p0 := by have := hg.out.pnew; omega
            have q0 := t10.cell F5.2.2.1 hbp
            have q1 := t10.cell F5.2.2.2.1 hbp
            have q2 := t10.cell F5.2.2.2.2 hbp
            have HD := Lib.hid (HDO.out F w10 NX.out.rep)
            have hsm : Hid (Small T') := Lib.hid ((GA.out.within.next HKP.out).good (by omega) |>.small)
            have HG := Lib.hid hg.out
            clear t10 F5 HDA HDW HDO c0 c1 e0 e1 e2 x0 x1 y0 y1 y2 a0 a1 a2 hwa GA G9 MID m0 m1 v0 v1 hg
            go_wp2_with fail
            refine HD.out.mono ?_
            rintro e w11 ⟨rfl, F', h1, h2, h3⟩
            have b11 := NX.out.box.turns h2 HG.out.offp
            have s0 := b11.c0
            have s1 := b11.c1
            have HS := Lib.hid (same_tree C w11 h1 hsm.out _ ((nodes_turns NX.out.nodes h2 NX.out.off).more h2.size))
            have N10 := Lib.hid NX.out.old
            have O11 := Lib.hid (((NX.out.old.turns h2 NX.out.off8)))
            have L11 := Lib.hid ((nodes_turns NX.out.olds h2 HG.out.off).more h2.size)
            clear b11 r0 r1 z0 z1 n0 n1 q0 q1 q2 HD hw10
            go_wp2_with fail
            refine HS.out.mono ?_
            rintro e w12 ⟨rfl, hb12⟩
            have HN := fun w13 (hb : Below w11.heap.size w11 w13) => Lib.hid (Next.goes C HG.out NX.out HKP.out h1 h2 h3 hb)
            by_cases hfe : fe = 0
            · subst hfe
              have NG := HN w12 hb12
              clear HER s0 s1 O11 L11 HN
              go_wp2_with fail
              go_roundw
              case rel => exact ⟨k + 1, T', F', _, by go_num, by omega, NG⟩
              case measure => simp [intOf]; omega
            · have tf : (fe == 0) = false := by simp [hfe]
              have tn : (fe != 0) = true := by simp [hfe]
              have HT := HER.out hfe
              subst HT
              have o0 := (O11.out.below hb12).c0
              have o1 := (O11.out.below hb12).c1
              have HS2 := Lib.hid (same_tree C w12 (C.below h1 hb12) hsm.out _ ((L11.out.below hb12).more hb12.size))
              clear HER s0 s1 O11 L11
              go_wp2_with fail
              refine HS2.out.mono ?_
              rintro e w13 ⟨rfl, hb13⟩
              have NG := HN w13 (on hb12 hb13)
              clear HN o0 o1 HS2
              go_wp2_with fail
              go_roundw
              case rel => exact ⟨k + 1, T', F', _, by go_num, by omega, NG⟩
              case measure => simp [intOf]; omega)
        · go_wp2_with fail
          refine (HL.out _).mono ?_
          rintro e w4 ⟨rfl, hb4⟩
          go_wp2_with fail
          go_ret
          exact ⟨rfl, hg.out.below.trans (hb4.mono hg.out.below.size)⟩
end Go.Proofs.YtdnedeeocpaolaaGreatDoor.W09
