/-
  A bundle of texts: IEK.
-/
import Derived.Test.YtnohmloilcpmiaaGreatS46
import Derived.Test.YtnohmloilcpmiaaGreatS47
import Derived.Test.YtnohmloilcpmiaaGreatS50
namespace Go.Proofs.YtnohmloilcpmiaaGreat
open Go.RowKit Go.Lib

theorem tnil : TNil where
  all := fun _ => allRecs_no (.inl rfl)
  copy := fun w => copy_nil w

def tiers : TiersSpec tables where
  Ok := fun _ => True
  okKept := fun _ _ => trivial
  Rep := IRep tables
  lt := IRep.lt
  sub := IRep.sub
  kept := IRep.kept
  good := IRep.good
  fit := IRep.fit
  cells := IRep.cells
  new := fun v f p now fl w _ hv h60 h10 ht hn hf hfc hfl hx => inew_any v f p now fl w hv h60 h10 ht hn hf hfc hfl hx
  put := fun v ss _ h hl hu _ hlen hoff hs => iput_any v ss h hl hu hlen hoff hs
  tick := fun n _ h hl hn => itick_any n h hl hn
  load := fun i v rs _ h hl hv _ _ hf _ => iload_any i v rs h hl hv hf
  ask := fun n f t _ h hl hn hf ht => iask_any n f t h hl hn hf ht
  table := fun i _ h hl _ => itable_any tnil i h hl
  records := fun i _ h hl _ => irecords_any tnil i h hl
  need := fun _ h hl => ineed_any h hl
  len := fun _ h hl => ilen_any h hl
  empty := fun _ h hl => iempty_any h hl
  same := fun _ h h' hl hl' => isame_any h h' hl hl'
  copy := fun _ h hl => icopy_any h hl

end Go.Proofs.YtnohmloilcpmiaaGreat
