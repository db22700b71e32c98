/- What package lex answers, as landed. Condition: the table of units is laid. -/
import Derived.Test.YtjijlepkcghmeaaDoorLxB3
namespace Go.Proofs.YtjijlepkcghmeaaDoor
open Go.RowKit
namespace Lx
theorem pkg : Pkg Units where
  on := fun _ _ hb h => h.on hb
  tokens := fun t w _ hT => by
    by_cases h : 4000 < t.length
    · exact tokens_long t h w
    · have h2 := tokens_any t (by omega) w hT
      rw [show read t = toks 0 t from if_neg h]
      exact h2
  spot := fun t i w hl h0 h1 _ => spot_any t i w hl h0 h1
  join := fun l n c A w hl hn hx _ => joinP_any l n c A w hl hn hx
end Lx
end Go.Proofs.YtjijlepkcghmeaaDoor
