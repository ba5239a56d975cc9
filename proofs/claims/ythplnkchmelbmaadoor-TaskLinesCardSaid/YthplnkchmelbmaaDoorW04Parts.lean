/-
  Layer 4 (path), a walk: the plain answer's Parts: a text's parts, in new memory, at every text of at most 2^40 bytes; nothing that was there is changed.
-/
import Derived.Test.YthplnkchmelbmaaDoorW04Math
import Derived.Test.YthplnkchmelbmaaDoorStrOwn
import Derived.WalkSpells
import Derived.WalkLawsBesides
import Derived.BigQuiet
namespace Go.Proofs.YthplnkchmelbmaaDoor.W04
set_option maxRecDepth 100000
open Go Go.RowKit Go.Proofs.YthplnkchmelbmaaDoor.Strs Go.Proofs.YthplnkchmelbmaaDoor.M04
open Go.Proofs.YthplnkchmelbmaaDoor.Kit (drop_next drop_end mk_bytes one_size one_byte cat_bytes byte_eq byte_ne list_full list_ne list_none list_nil bytes_nil bytes_cons)

/-- what stands at a round's head -/
def Pst (l : Bytes) (k : Nat) (out : List Bytes) (now : Bytes) : Prop := (k ≤ l.length ∧ out ++ pgo (l.drop k) now = parts l) ∨ (k = l.length + 1 ∧ out = parts l)
def Going (s : ByteArray) (k : Nat) (out : List Bytes) (now : ByteArray) : Prop := Pst s.data.toList k out now.data.toList
theorem going_start (s : ByteArray) : Going s 0 [] ⟨#[]⟩ := Or.inl ⟨Nat.zero_le _, rfl⟩
section
variable {s : ByteArray} {k : Nat} {out : List Bytes} {now : ByteArray}
theorem going_in (h : Going s k out now) (hk : k < s.size) : out ++ pgo (s[k] :: s.data.toList.drop (k + 1)) now.data.toList = parts s.data.toList := by
  rw [Lib.size_eq] at hk
  rcases h with ⟨_, h⟩ | ⟨h, _⟩
  · rw [drop_next s k (by rw [Lib.size_eq]; exact hk)] at h; exact h
  · omega
theorem going_char (h : Going s k out now) (hk : k < s.size) (hc : ¬ s[k] = 47) : Going s (k + 1) out (now ++ s.extract k (k + 1)) := by
  have := going_in h hk
  left
  refine ⟨by rw [← Lib.size_eq]; omega, ?_⟩
  rw [pgo, if_neg hc] at this
  rw [cat_bytes, one_byte s k hk]; exact this
theorem going_slash (h : Going s k out now) (hk : k < s.size) (hc : s[k] = 47) : Going s (k + 1) (out ++ flush now.data.toList) ⟨#[]⟩ := by
  have := going_in h hk
  left
  refine ⟨by rw [← Lib.size_eq]; omega, ?_⟩
  rw [pgo, if_pos hc] at this
  rw [List.append_assoc]; exact this
theorem going_end (h : Going s k out now) (hk : k = s.size) : Going s (k + 1) (out ++ flush now.data.toList) ⟨#[]⟩ := by
  right
  refine ⟨by rw [hk, Lib.size_eq], ?_⟩
  rcases h with ⟨_, h⟩ | ⟨h, _⟩
  · rw [hk, drop_end s s.size (Nat.lt_irrefl _)] at h; exact h
  · rw [Lib.size_eq] at hk; omega
theorem going_stop (h : Going s k out now) (hk : s.size < k) : out = parts s.data.toList := by
  rcases h with ⟨h, _⟩ | ⟨_, h⟩
  · rw [Lib.size_eq] at hk; omega
  · exact h
theorem flush_keep (h : 0 < now.size) (h2 : (now.toList == [46]) = false) : flush now.data.toList = [now.data.toList] := by
  unfold flush
  rw [if_neg]
  rintro (e | e)
  · rw [bytes_cons h] at e; simp at e
  · rw [Lib.toList_data, e] at h2; simp at h2
theorem flush_void (h : ¬ 0 < now.size) : flush now.data.toList = [] := by unfold flush; rw [if_pos (Or.inl (bytes_nil h))]
theorem flush_point (h2 : (now.toList == [46]) = true) : flush now.data.toList = [] := by
  unfold flush; rw [if_pos (Or.inr (by rw [← Lib.toList_data]; exact beq_iff_eq.1 h2))]
end
/-- what a call returns that makes a row of texts -/
def Makes (w : World) (L : List Bytes) (e : Ending) (w' : World) : Prop := ∃ v, e = .returned v ∧ w'.ownsRow w.heap.size 9 1 v L.length (L.map strV) ∧ Below w.heap.size w w'
theorem makes_done {w w' : World} {L out : List Bytes} {v : Value} (h : out = L) (hown : w'.ownsRow w.heap.size 9 1 v out.length (out.map strV)) (hb : Below w.heap.size w w') : Makes w L (.returned v) w' := by
  subst h; exact ⟨v, rfl, hown, hb⟩

set_option maxHeartbeats 1000000 in
theorem refParts_any (s : ByteArray) (hs : s.size ≤ 1099511627776) (w : World) :
    Calls Tryd.prog 33 #[.string s] w (Makes w (parts s.data.toList)) := by
  obtain ⟨i0, hi, hz0, hz1, hz2⟩ := info_parts text_info
  go_enter Tryd.func33, Tryd.ntmps33
  go_wp2
  go_loopw [3, 4, 5] (fun v d i wr => ∃ (k : Nat) (out : List Bytes) (now : ByteArray), k ≤ s.size + 1 ∧ i = .int .i64 k ∧ d = .string now ∧ now.size ≤ k ∧ out.length ≤ k ∧ Hid (Going s k out now) ∧ Hid (wr.ownsRow w.heap.size 9 1 v out.length (out.map strV)) ∧ Below w.heap.size w wr) (fun _ _ i _ => s.size + 1 - (intOf i).toNat)
  case atStart => exact ⟨0, [], ⟨#[]⟩, Nat.zero_le _, rfl, rfl, Nat.zero_le _, Nat.le_refl _, going_start s, World.ownsRow_nil _ _ _ _, Below.refl _ _⟩
  case round =>
    obtain ⟨k, out, now, hk, rfl, rfl, hnow, hout, hg, hown, hb⟩ := hrel
    have hbs := hb.size
    by_cases hlt : k < s.size
    · by_cases h47 : (s[k].toNat : Int) = 47
      · have HG := Lib.hid (going_slash hg.out hlt (byte_eq (d := 47) h47))
        have t47 : ((s[k].toNat : Int) != 47) = false := by simp [h47]
        clear h47
        by_cases h0 : 0 < now.size
        · have hn := list_ne h0
          have hf := list_full h0
          cases hp : (now.toList == [46]) with
          | true =>
            have HX : Hid (Going s (k + 1) out ⟨#[]⟩) := by have := HG.out; rw [flush_point hp, List.append_nil] at this; exact this
            have hpe := beq_iff_eq.1 hp
            go_wp2
            go_roundw
            case rel => exact ⟨k + 1, out, ⟨#[]⟩, by omega, by go_num, rfl, Nat.zero_le _, by omega, HX, hown, hb⟩
            case measure => simp [intOf]; omega
          | false =>
            have HX : Hid (Going s (k + 1) (out ++ [now.data.toList]) ⟨#[]⟩) := by have := HG.out; rw [flush_keep h0 hp] at this; exact this
            have hpe := beq_eq_false_iff_ne.1 hp
            go_wp2_with (at_builtin; refine wpList_append_own _ rfl (.tmp 35) (.tmp 37) 39 rfl w.heap.size 9 i0 (.string ⟨#[]⟩) 1 16 Tryd.underlying39 hi hz0 hz1 hz2 rfl (by decide) _ _ _ rfl (hown.out.alloc _) ⟨_, 0, none⟩ 1 1 [.string now] rfl rfl (cell_one_new _ _ _) (by intro u hu; simp at hu; subst hu; rfl) (by unfold maxLen; omega) (by omega) (by simp; omega) ?_; intro v1 w1 hown1 hgrow1 _)
            have B1 := Lib.hid (below_more hb hown.out hgrow1)
            have O1 := Lib.hid (own_more hown1)
            clear hown1 hgrow1
            go_wp2
            go_roundw
            case rel => exact ⟨k + 1, out ++ [now.data.toList], ⟨#[]⟩, by omega, by go_num, rfl, Nat.zero_le _, by rw [List.length_append]; simp; omega, HX, O1, B1.out⟩
            case measure => simp [intOf]; omega
        · have hn := list_nil h0
          have hf := list_none h0
          have HX : Hid (Going s (k + 1) out ⟨#[]⟩) := by have := HG.out; rw [flush_void h0, List.append_nil] at this; exact this
          go_wp2
          go_roundw
          case rel => exact ⟨k + 1, out, ⟨#[]⟩, by omega, by go_num, rfl, Nat.zero_le _, by omega, HX, hown, hb⟩
          case measure => simp [intOf]; omega
      · have HG := Lib.hid (going_char hg.out hlt (byte_ne (d := 47) h47))
        have t47 : ((s[k].toNat : Int) != 47) = true := by simp [h47]
        have h1 := one_size s k hlt
        clear h47
        go_wp2
        go_roundw
        case rel => exact ⟨k + 1, out, _, by omega, by go_num, rfl, by rw [ByteArray.size_append]; omega, by omega, HG, hown, hb⟩
        case measure => simp [intOf]; omega
    · by_cases hke : k = s.size
      · have HG := Lib.hid (going_end hg.out hke)
        by_cases h0 : 0 < now.size
        · have hn := list_ne h0
          have hf := list_full h0
          cases hp : (now.toList == [46]) with
          | true =>
            have HX : Hid (Going s (k + 1) out ⟨#[]⟩) := by have := HG.out; rw [flush_point hp, List.append_nil] at this; exact this
            have hpe := beq_iff_eq.1 hp
            go_wp2
            go_roundw
            case rel => exact ⟨k + 1, out, ⟨#[]⟩, by omega, by go_num, rfl, Nat.zero_le _, by omega, HX, hown, hb⟩
            case measure => simp [intOf]; omega
          | false =>
            have HX : Hid (Going s (k + 1) (out ++ [now.data.toList]) ⟨#[]⟩) := by have := HG.out; rw [flush_keep h0 hp] at this; exact this
            have hpe := beq_eq_false_iff_ne.1 hp
            go_wp2_with (at_builtin; refine wpList_append_own _ rfl (.tmp 35) (.tmp 37) 39 rfl w.heap.size 9 i0 (.string ⟨#[]⟩) 1 16 Tryd.underlying39 hi hz0 hz1 hz2 rfl (by decide) _ _ _ rfl (hown.out.alloc _) ⟨_, 0, none⟩ 1 1 [.string now] rfl rfl (cell_one_new _ _ _) (by intro u hu; simp at hu; subst hu; rfl) (by unfold maxLen; omega) (by omega) (by simp; omega) ?_; intro v1 w1 hown1 hgrow1 _)
            have B1 := Lib.hid (below_more hb hown.out hgrow1)
            have O1 := Lib.hid (own_more hown1)
            clear hown1 hgrow1
            go_wp2
            go_roundw
            case rel => exact ⟨k + 1, out ++ [now.data.toList], ⟨#[]⟩, by omega, by go_num, rfl, Nat.zero_le _, by rw [List.length_append]; simp; omega, HX, O1, B1.out⟩
            case measure => simp [intOf]; omega
        · have hn := list_nil h0
          have hf := list_none h0
          have HX : Hid (Going s (k + 1) out ⟨#[]⟩) := by have := HG.out; rw [flush_void h0, List.append_nil] at this; exact this
          go_wp2
          go_roundw
          case rel => exact ⟨k + 1, out, ⟨#[]⟩, by omega, by go_num, rfl, Nat.zero_le _, by omega, HX, hown, hb⟩
          case measure => simp [intOf]; omega
      · have HE := Lib.hid (going_stop hg.out (by omega))
        go_wp2
        go_ret
        exact makes_done HE.out hown.out hb
end Go.Proofs.YthplnkchmelbmaaDoor.W04
