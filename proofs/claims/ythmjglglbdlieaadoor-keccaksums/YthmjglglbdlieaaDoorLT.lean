/-
  The walk of KeccakSums, whatever it is handed.
-/
import Derived.Test.YthmjglglbdlieaaDoorLS
namespace Go.Proofs.YthmjglglbdlieaaDoor
open Go.ChangeShapes Go.WideShapes Go.ChangeAt Go.RowKit

set_option maxRecDepth 20000 in
set_option maxHeartbeats 800000 in
theorem sums_big (w : World) (T : Tabs w) {va na : Option Addr} {len cap ln nc : Nat} (h : 1000 < len ∨ 20 < ln) (h1 : len ≤ 9223372036854775807) (h2 : ln ≤ 9223372036854775807) :
    Calls Tryd.prog 3 #[.slice va len cap, .slice na ln nc] w fun e w' => e = .returned (.bool true) ∧ Fr [] w w' := by
  have HT := hid T
  clear T
  by_cases hb : 1000 < len
  · clear h
    go_enter Tryd.func3, Tryd.ntmps3
    go_wp2_with fail
    refine (known_c w HT.out).mono ?_
    rintro e w1 ⟨rfl, f1⟩
    have F1 := hid f1
    clear f1
    go_wp2
    go_ret
    exact ⟨rfl, F1.out⟩
  · have h20 : 20 < ln := by omega
    have hb' : len ≤ 1000 := by omega
    clear h hb
    go_enter Tryd.func3, Tryd.ntmps3
    go_wp2_with fail
    refine (known_c w HT.out).mono ?_
    rintro e w1 ⟨rfl, f1⟩
    have F1 := hid f1
    clear f1
    go_wp2
    go_ret
    exact ⟨rfl, F1.out⟩
theorem sums_c (w : World) (T : Tabs w) {va : Option Addr} {cap : Nat} {ns : List Nat} (hr : Rd w (.slice va ns.length cap) (bv ns)) (hb : ∀ x ∈ ns, x < 256) (hl : ns.length ≤ 9223372036854775807) {na : Option Addr} {ln nc : Nat} {Y : Nat → Int} (hY : Ints w na ln Y) (hn : ln ≤ 9223372036854775807) :
    Calls Tryd.prog 3 #[.slice va ns.length cap, .slice na ln nc] w fun e w' => e = .returned (.bool true) ∧ Fr [] w w' := by
  by_cases h : 1000 < ns.length ∨ 20 < ln
  · exact sums_big w T h hl hn
  · exact sums_small w T hr hb (by omega) hY (by omega)
end Go.Proofs.YthmjglglbdlieaaDoor
