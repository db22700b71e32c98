/- The walk of the statement HashMacMatchesSpec. Condition: the tables of round constants read as the program lays them; lengths have 63 bits. -/
import Derived.Test.YtciinlncflngdaaDoorHRefMac
import Derived.Test.YtciinlncflngdaaDoorHLawSum
namespace Go.Proofs.YtciinlncflngdaaDoor
open Go.RowKit
namespace Hash

set_option maxRecDepth 100000 in
set_option maxHeartbeats 1000000 in
theorem macLaw (key text : List UInt8) (w : World) (hk : key.length ≤ 9223372036854775807) (hx : text.length ≤ 9223372036854775807) (ht1 : Table 1 w) (ht2 : Table 0 w) :
    Calls Tryd.prog 5 #[.string ⟨key.toArray⟩, .string ⟨text.toArray⟩] w (YesH w) := by
  have hsa := sizeS key
  have hsb := sizeS text
  have T1 := Lib.hid ht1
  have T2 := Lib.hid ht2
  have Z := Below.refl w.heap.size w
  clear ht1 ht2
  by_cases h1 : (400 : Int) < (key.length : Int)
  case' neg => by_cases h2 : (400 : Int) < (text.length : Int)
  rotate_left 2
  all_goals try
    (clear hk hx
     go_enter Tryd.func5, Tryd.ntmps5
     go_wp2_with (go_at_call 10; (with_reducible refine (sanity_any _ (tabj T1.out Z)).mono ?_); rintro e w1 ⟨rfl, hb⟩; replace Z := bcj Z hb; clear hb)
     go_ret
     exact ⟨rfl, Z⟩)
  have E1 := Lib.hid (fun W hT => mac_any key text W hk hx hT)
  have E2 := Lib.hid (fun W hT => refMac_any key text W (by omega) (by omega) hT)
  have q := sameS (mac key text)
  generalize mac key text = M at *
  clear hk hx
  go_enter Tryd.func5, Tryd.ntmps5
  go_wp2_with (first
    | (go_at_call 10; (with_reducible refine (sanity_any _ (tabj T1.out Z)).mono ?_); rintro e w1 ⟨rfl, hb⟩; replace Z := bcj Z hb; clear hb)
    | (go_at_call 18; (with_reducible refine (E1.out _ (tabj T1.out Z)).mono ?_); rintro e w2 ⟨rfl, hb⟩; replace Z := bcj Z hb; clear hb)
    | (go_at_call 19; (with_reducible refine (E2.out _ (tabj T2.out Z)).mono ?_); rintro e w3 ⟨rfl, hb⟩; replace Z := bcj Z hb; clear hb))
  go_ret
  exact ⟨rfl, Z⟩

theorem macLawB (a b : ByteArray) (ha : a.data.toList.length ≤ 9223372036854775807) (hb : b.data.toList.length ≤ 9223372036854775807) (w : World) (ht1 : Table 1 w) (ht2 : Table 0 w) :
    Calls Tryd.prog 5 #[.string a, .string b] w (YesH w) := by
  have := macLaw a.data.toList b.data.toList w ha hb ht1 ht2
  rwa [show (⟨a.data.toList.toArray⟩ : ByteArray) = a from ByteArray.ext rfl, show (⟨b.data.toList.toArray⟩ : ByteArray) = b from ByteArray.ext rfl] at this

end Hash
end Go.Proofs.YtciinlncflngdaaDoor
