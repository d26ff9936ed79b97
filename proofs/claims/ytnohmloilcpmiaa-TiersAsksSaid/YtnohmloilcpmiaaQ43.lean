/-
  A bundle of texts: IEK.
-/
import Derived.Shelf.SlIter.Nil
import Derived.Laws.IdiomRangeMap
import Derived.Test.YtnohmloilcpmiaaQ40
import Derived.Test.YtnohmloilcpmiaaQ31
import Derived.Test.YtnohmloilcpmiaaQ42
namespace Go.Proofs.Ytnohmloilcpmiaa
open Go.RowKit Go.Lib

def tiers : TiersSpec tables where
  Ok := fun _ => True
  okKept := fun _ _ => trivial
  Rep := IRep tables
  lt := IRep.lt
  sub := IRep.sub
  kept := IRep.kept
  good := IRep.good
  fit := IRep.fit
  cells := IRep.cells
  new := fun v f p now fl w _ hv h60 h10 ht hn hf hfc hfl hx => inew_any v f p now fl w hv h60 h10 ht hn hf hfc hfl hx
  put := fun v ss _ h hl hu _ hlen hoff hs => iput_any v ss h hl hu hlen hoff hs
  tick := fun n _ h hl hn => itick_any n h hl hn
  ask := fun n f t _ h hl hn hf ht => iask_any n f t h hl hn hf ht
  len := fun _ h hl => ilen_any h hl

end Go.Proofs.Ytnohmloilcpmiaa
