/- What the program's own six functions of chapter 2 give, together. Conditions: as each contract says. -/
import Derived.Test.YtcldheidokdcpaaDoorOwnNames
import Derived.Test.YtcldheidokdcpaaDoorOwnFresh
import Derived.Test.YtcldheidokdcpaaDoorLawNames
namespace Go.Proofs.YtcldheidokdcpaaDoor
open Go Go.RowKit

theorem ownNames : OwnNames where
  fresh := fun A xs cap p w hpow hs hn hx hp => own_fresh A xs cap p w hpow hs hn (fun x h => by have := hx x h; omega) hp
  index := fun A xs cap s w hs hn => own_index A xs cap s w hs (by omega)
  unite := fun A B xs ys cap cap2 w hs hs2 hn hm hx hy => own_unite A B xs ys cap cap2 w hs hs2 hn hm (fun x h => by have := hx x h; omega) (fun x h => by have := hy x h; omega)
  distinct := fun A xs cap w hs hn hx _ _ => own_distinct A xs cap w hs hn (fun x h => by have := hx x h; omega)
  isname := fun s w _ => own_isname s w
  iscon := fun s w _ => own_iscon s w
end Go.Proofs.YtcldheidokdcpaaDoor
