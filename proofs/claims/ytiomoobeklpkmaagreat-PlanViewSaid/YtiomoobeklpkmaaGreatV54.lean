/-
 A bundle of texts: IEK.
-/
import Derived.Test.YtiomoobeklpkmaaGreatV47
import Derived.Test.YtiomoobeklpkmaaGreatV39
import Derived.Test.YtiomoobeklpkmaaGreatV51
namespace Go.Proofs.YtiomoobeklpkmaaGreat
open Go.RowKit Go.Lib

theorem tnil : TNil where
 all := fun _ => allRecs_no (.inl rfl)
 copy := fun w => copy_nil w

def tiers : TiersSpec tables where
 Ok := fun _ => True
 okKept := fun _ _ => trivial
 Rep := IRep tables
 lt := IRep.lt
 sub := IRep.sub
 kept := IRep.kept
 good := IRep.good
 fit := IRep.fit
 cells := IRep.cells
 new := fun v f p now fl w _ hv h60 h10 ht hn hf hfc hfl hx => inew_any v f p now fl w hv h60 h10 ht hn hf hfc hfl hx
 put := fun v ss _ h hl hu _ hlen hoff hs => iput_any v ss h hl hu hlen hoff hs
 tick := fun n _ h hl hn => itick_any n h hl hn
 load := fun i v rs _ h hl hv _ _ hf _ => iload_any i v rs h hl hv hf
 table := fun i _ h hl _ => itable_any tnil i h hl
 records := fun i _ h hl _ => irecords_any tnil i h hl

end Go.Proofs.YtiomoobeklpkmaaGreat
