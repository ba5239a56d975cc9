/-
  Texts joined, in build order, each with its own comment and its own conditions: W09Does, W09Laws, W10Inst.
-/
import Derived.Test.YtmbpgjncioegdaaGreatDoorJ11
import Derived.Test.YtmbpgjncioegdaaGreatDoorJ23
import Derived.Test.YtmbpgjncioegdaaGreatDoorJ09
import Derived.Test.YtmbpgjncioegdaaGreatDoorJ21
import Derived.Test.YtmbpgjncioegdaaGreatDoorJ18
import Derived.Test.YtmbpgjncioegdaaGreatDoorJ22
/-
  Layer 9 (posix), a walk of the law PosixDoes over the contracts: it returns true, at every list of tasks; nothing that was there is changed. The conditions stand in the statement.
-/
namespace Go.Proofs.YtmbpgjncioegdaaGreatDoor.W09
open Go Go.RowKit Go.Proofs.YtmbpgjncioegdaaGreatDoor.Strs Go.Proofs.YtmbpgjncioegdaaGreatDoor.Recs Go.Proofs.YtmbpgjncioegdaaGreatDoor.Range
open Go.Proofs.YtmbpgjncioegdaaGreatDoor.M07 (Tr Nd nodeAt inDir Right listDir)
open Go.Proofs.YtmbpgjncioegdaaGreatDoor.M08 Go.Proofs.YtmbpgjncioegdaaGreatDoor.M09
open Go.Proofs.YtmbpgjncioegdaaGreatDoor.W07 (Small Trees Wrote Nodes nodeV TreeBox heap_top TreeErr FromOr Off turns_box nodes_turns off_from off_same right_full same_tree)
open Go.Proofs.YtmbpgjncioegdaaGreatDoor.W08 (Sn Snodes snC snC_len isFew few_is made)
open Go.Proofs.YtmbpgjncioegdaaGreatDoor.Kit (ret_str ret_bool ret_int mk_of mk_bytes ba_ext below_draws on)

/-- where the loop stands: the tree, the plain tree and its box -/
structure Goes9 (Rep : (Nat → Prop) → World → Value → Tr → Prop) (w0 wr : World) (p0 : Nat) (pv : Value) (n : Nat) (t : Tr) (F : Nat → Prop) (u : Value) : Prop where
  rep : Rep F wr pv t
  box : TreeBox wr p0 u t.last
  nodes : Nodes wr.heap.size wr u t.L
  off : Off F u
  offp : ¬ F p0
  apart : Off (fun k => k = p0) u
  within : Within t n
  new : ∀ k, F k → w0.heap.size ≤ k
  pnew : w0.heap.size ≤ p0
  below : Below w0.heap.size w0 wr
theorem root_last {t : Tr} (h : Right t) : 1 ≤ t.last := by
  obtain ⟨r, hr⟩ := h.root
  exact (h.ends ⟨1, 1, [], 1, []⟩ (by rw [hr]; exact List.mem_cons_self)).2
theorem two_fits {t : Tr} {n : Nat} {w : World} {u : Value} (h : Within t n) (hn : n ≤ 1048576) (N : Nodes w.heap.size w u t.L) : Fits t w u :=
  ⟨h.fit, Nat.le_trans h.len hn, right_full h.right, by have := root_last h.right; omega, by have := h.last; omega, N⟩
/-- the cells that a round's first call reads -/
theorem five_turns {T : Nat → Prop} {w' w'' : World} {p b q : Nat} {y0 y1 y2 y3 y4 : Value} (h : w'.cell? ⟨p, 0, none⟩ = some y0 ∧ w'.cell? ⟨p, 1, none⟩ = some y1 ∧ w'.cell? ⟨b, q, none⟩ = some y2 ∧ w'.cell? ⟨b, q + 1, none⟩ = some y3 ∧ w'.cell? ⟨b, q + 2, none⟩ = some y4) (t : Turns T w' w'') (hp : ¬ T p) (hb : ¬ T b) :
    w''.cell? ⟨p, 0, none⟩ = some y0 ∧ w''.cell? ⟨p, 1, none⟩ = some y1 ∧ w''.cell? ⟨b, q, none⟩ = some y2 ∧ w''.cell? ⟨b, q + 1, none⟩ = some y3 ∧ w''.cell? ⟨b, q + 2, none⟩ = some y4 :=
  ⟨t.cell h.1 hp, t.cell h.2.1 hp, t.cell h.2.2.1 hb, t.cell h.2.2.2.1 hb, t.cell h.2.2.2.2 hb⟩
theorem five_on {w' w'' : World} {p b q : Nat} {y0 y1 y2 y3 y4 : Value} (h : w'.cell? ⟨p, 0, none⟩ = some y0 ∧ w'.cell? ⟨p, 1, none⟩ = some y1 ∧ w'.cell? ⟨b, q, none⟩ = some y2 ∧ w'.cell? ⟨b, q + 1, none⟩ = some y3 ∧ w'.cell? ⟨b, q + 2, none⟩ = some y4) (hB : Below w'.heap.size w' w'') :
    w''.cell? ⟨p, 0, none⟩ = some y0 ∧ w''.cell? ⟨p, 1, none⟩ = some y1 ∧ w''.cell? ⟨b, q, none⟩ = some y2 ∧ w''.cell? ⟨b, q + 1, none⟩ = some y3 ∧ w''.cell? ⟨b, q + 2, none⟩ = some y4 :=
  five_turns h (Turns.new (T := fun _ => False) hB) id id
/-- what stands behind a round's first call and its store -/
structure Mid (w wa w9 : World) (pQ : Nat) (u8 : Value) (T' : Tr) (u : Value) : Prop where
  below : Below wa.heap.size wa w9
  box : TreeBox w9 pQ u8 T'.last
  nodes : Nodes w9.heap.size w9 u8 T'.L
  from_ : FromOr u wa.heap.size u8
theorem Goes9.boxed {Rep : (Nat → Prop) → World → Value → Tr → Prop} (C : Trees Rep) {w0 wr wa : World} {p0 n : Nat} {pv u : Value} {t : Tr} {F : Nat → Prop} (h : Goes9 Rep w0 wr p0 pv n t F u) (hb : Below wr.heap.size wr wa) : Goes9 Rep w0 wa p0 pv n t F u :=
  ⟨C.below h.rep hb, h.box.below hb, (h.nodes.below hb).more hb.size, h.off, h.offp, h.apart, h.within, h.new, h.pnew, h.below.trans (hb.mono h.below.size)⟩
/-- behind the round's second store: the plain tree is the next one; the tree itself is still the old one -/
structure Next (Rep : (Nat → Prop) → World → Value → Tr → Prop) (w0 wr w10 : World) (p0 p8 : Nat) (pv : Value) (n : Nat) (t T' : Tr) (F : Nat → Prop) (u u8 : Value) : Prop where
  rep : Rep F w10 pv t
  box : TreeBox w10 p0 u8 T'.last
  old : TreeBox w10 p8 u t.last
  nodes : Nodes w10.heap.size w10 u8 T'.L
  olds : Nodes w10.heap.size w10 u t.L
  off : Off F u8
  below : Below w0.heap.size w0 w10
  lt : p0 < w10.heap.size
  off8 : ¬ F p8
  apart : Off (fun k => k = p0) u8
theorem Goes9.next {Rep : (Nat → Prop) → World → Value → Tr → Prop} (C : Trees Rep) {w0 wr wa w9 : World} {p0 pQ n : Nat} {pv u u8 : Value} {t T' : Tr} {F : Nat → Prop} (g : Goes9 Rep w0 wr p0 pv n t F u) (ha : wr.alloc (.cells #[u, .int .i64 t.last] 30) = wa) (m : Mid w0 wa w9 pQ u8 T' u) :
    Next Rep w0 wr ((w9.setCell ⟨p0, 0, none⟩ u8).setCell ⟨p0, 1, none⟩ (.int .i64 T'.last)) p0 wr.heap.size pv n t T' F u u8 := by
  have hba : Below wr.heap.size wr wa := by rw [← ha]; exact (Below.refl _ _).alloc (Nat.le_refl _) _
  have T8 : TreeBox wa wr.heap.size u t.last := by rw [← ha]; exact heap_top _ _
  have hsa : wa.heap.size = wr.heap.size + 1 := by rw [← ha]; exact World.size_alloc _ _
  have ga := g.boxed C hba
  have g9 := ga.boxed C m.below
  have hp0 := g.box.lt
  have hlow := C.low g.rep
  have tp := turns_box w9 p0 u8 (.int .i64 T'.last)
  have hap : Off (fun k => k = p0) u8 := off_from g.apart (fun k hk => by have : k = p0 := hk; omega) m.from_
  have h9 := m.below.size
  exact {
    rep := C.keep g9.rep (fun k hk => tp.block k (by have := hlow k hk; omega) (fun e => g.offp (by have : k = p0 := e; rw [← this]; exact hk))) tp.size
    box := W07.box_stored2 g9.box
    old := (T8.below m.below).turns tp (by omega)
    nodes := (nodes_turns m.nodes tp hap).more tp.size
    olds := (nodes_turns g9.nodes tp g.apart).more tp.size
    off := off_from g.off (fun k hk => by have := hlow k hk; omega) m.from_
    below := (g9.below.setCell g.pnew _).setCell g.pnew _
    lt := by have := tp.size; omega
    off8 := fun hk => by have := hlow _ hk; omega
    apart := hap }
/-- the round's end -/
theorem Next.goes {Rep : (Nat → Prop) → World → Value → Tr → Prop} (C : Trees Rep) {w0 wr w10 w11 w12 : World} {p0 p8 n : Nat} {pv u u8 : Value} {t T' : Tr} {F F' : Nat → Prop} (g : Goes9 Rep w0 wr p0 pv n t F u) (x : Next Rep w0 wr w10 p0 p8 pv n t T' F u u8) (k : Kept t T')
    (h1 : Rep F' w11 pv T') (h2 : Turns F w10 w11) (h3 : ∀ k, F' k → F k ∨ w10.heap.size ≤ k) (hb : Below w11.heap.size w11 w12) : Goes9 Rep w0 w12 p0 pv (n + 1) T' F' u8 :=
  have hF' : ∀ k, F' k → w0.heap.size ≤ k := fun k hk => (h3 k hk).elim (g.new k) (fun h => Nat.le_trans x.below.size h)
  { rep := C.below h1 hb
    box := (x.box.turns h2 g.offp).below hb
    nodes := ((nodes_turns x.nodes h2 x.off).more h2.size |>.below hb).more hb.size
    off := off_same x.nodes (right_full (k.right g.within.right)) x.off h3
    offp := fun hk => (h3 _ hk).elim g.offp (fun h => by have := x.lt; omega)
    apart := x.apart
    within := g.within.next k
    new := hF'
    pnew := g.pnew
    below := (x.below.trans (h2.below g.new x.below.size)).trans (hb.mono (Nat.le_trans x.below.size h2.size)) }
theorem mid_in {w wa wN : World} {pQ n c : Nat} {A : Option Addr} {l : Int} {u8 u : Value} {T' : Tr} (hb : Below wa.heap.size wa wN) (h : TreeBox wN pQ (.slice A n c) l) (hn : Nodes wN.heap.size wN u8 T'.L) (h0 : 0 < T'.L.length) (hq : wa.heap.size ≤ pQ) (hf : FromOr u wa.heap.size u8) :
    Mid w wa ((wN.setCell ⟨pQ, 0, none⟩ u8).setCell ⟨pQ, 1, none⟩ (.int .i64 T'.last)) pQ u8 T' u :=
  have ht := turns_box wN pQ u8 (.int .i64 T'.last)
  ⟨(hb.setCell hq _).setCell hq _, W07.box_stored2 h, (nodes_turns hn ht (W07.off_box h hn h0)).more ht.size, hf⟩
end Go.Proofs.YtmbpgjncioegdaaGreatDoor.W09
/-
  Layer 9 (posix): the landed code keeps the contracts that the laws ask ('Posix', 'NoPosix': XW09Code); so the laws hold. Conditions: none but those that each theorem bears.
-/
namespace Go.Proofs.YtmbpgjncioegdaaGreatDoor.W09
open Go Go.RowKit Go.Proofs.YtmbpgjncioegdaaGreatDoor.Strs Go.Proofs.YtmbpgjncioegdaaGreatDoor.Recs
open Go.Proofs.YtmbpgjncioegdaaGreatDoor.W07 (trees)
open Go.Proofs.YtmbpgjncioegdaaGreatDoor.W08 (Sn Snodes)

end Go.Proofs.YtmbpgjncioegdaaGreatDoor.W09
/-
  Layer 10 (fs): the landed code meets the contracts of layer 10 ('fss', 'applies'). No condition.
-/
namespace Go.Proofs.YtmbpgjncioegdaaGreatDoor.W10
open Go Go.RowKit
open Go.Proofs.YtmbpgjncioegdaaGreatDoor.W07 (Trees)

theorem full_tree {F : Blocks} {w : World} {v : Value} {t : M07.Tr} (h : W07.Rep F w v t) : ∃ a, v = .pointer (some a) := by
  obtain ⟨-, sb, mb, lv, rfl, -⟩ := h
  exact ⟨_, rfl⟩
theorem fss : Fss W07.Rep (RepF W07.Rep) where
  keep := fun ⟨Ft, p, tv, mv, e, h⟩ hk hs => ⟨Ft, p, tv, mv, e, h.keep W07.trees hk hs⟩
  low := fun ⟨_, _, _, _, _, h⟩ => h.low
  right := fun ⟨_, _, _, _, _, h⟩ => W07.trees.right h.tree
  full := fun ⟨_, p, _, _, e, _⟩ => ⟨⟨p, 0, none⟩, e⟩
  new := fun h => new_any W07.trees full_tree h
  newNil := fun w => newNil_any W07.trees full_tree w
  plan := fun h u L hL => plan_any W07.trees h u L hL
  do_ := fun h hg hc k p s hp hs => do_any W07.trees full_tree W09.posix h hg hc k p s hp hs
  count := fun h => count_any h
  down := fun h => down_any h
  tree := fun h => tree_any h
theorem applies : Applies W07.Rep where
  apply := fun h n hn _ _ hL ho hm hs => apply_any W07.trees full_tree W09.posix h n hn hL ho hm hs
  applyNil := fun w u h => applyNil_any w u h
end Go.Proofs.YtmbpgjncioegdaaGreatDoor.W10
