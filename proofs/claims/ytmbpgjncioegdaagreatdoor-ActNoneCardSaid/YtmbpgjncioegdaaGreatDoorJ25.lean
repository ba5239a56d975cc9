/-
  Texts joined, in build order, each with its own comment and its own conditions: W20LawsN.
-/
import Derived.Test.YtmbpgjncioegdaaGreatDoorJ23
import Derived.Test.YtmbpgjncioegdaaGreatDoorJ24
/-
  Layer 20 (act): the landed code of the layers below keeps the contracts that the law ActNone asks; so the law holds. Conditions: none but those that the theorem bears.
-/
namespace Go.Proofs.YtmbpgjncioegdaaGreatDoor.W20
open Go Go.RowKit Go.Proofs.YtmbpgjncioegdaaGreatDoor.Strs Go.Proofs.YtmbpgjncioegdaaGreatDoor.Recs
open Go.Proofs.YtmbpgjncioegdaaGreatDoor.M10 (Fl)
open Go.Proofs.YtmbpgjncioegdaaGreatDoor.W08 (Sn Snodes)
open Go.Proofs.YtmbpgjncioegdaaGreatDoor.W09 (Tk Tasks)
open Go.Proofs.YtmbpgjncioegdaaGreatDoor.W10 (Faults)

theorem actNone_law (w : World) (y : Value) (K : List Tk) (hK : Tasks w.heap.size w y K) (j : Int) (_hj1 : -9223372036854775808 ≤ j) (_hj2 : j ≤ 9223372036854775807) :
    Calls Tryz.prog 6 #[y, .int .i64 j] w fun e w' => e = .returned (.bool true) ∧ Below w.heap.size w w' := actNone_over W07.trees W10.applies W10.full_tree w y K hK j
end Go.Proofs.YtmbpgjncioegdaaGreatDoor.W20
