/- head: what is asked of it, met. (Stage 19.) -/
import Derived.Test.YtacbfbhhhofifaaDoorHPS
import Derived.Test.YtacbfbhhhofifaaDoorHPC
namespace Go.Proofs.YtacbfbhhhofifaaDoor.Hd
open Go.RowKit
set_option linter.unusedVariables false

theorem ctr : Ctr Rd where
  token := fun s w hs => token_any s hs w
  get := fun M T v F fs name w hF hl hfw => get_any M T v F fs name w hF hl hfw
  parse := fun s w hs => parse_any s w hs
  new := new_any
  feed := fun base W p l s h _ hs => feed_any base W p l s h hs
  head := fun base W p l h => head_any base W p l h
  bytes := fun base W p l h => bytes_any base W p l h
  keep := fun _ _ _ _ _ h hb => h.keep hb
  base := fun _ _ _ _ h => h.base
  len := fun _ _ _ _ h => h.len
  feed0 := fun s w => feed_nil s w
  head0 := fun w => head_nil w
  bytes0 := fun w => bytes_nil w
end Go.Proofs.YtacbfbhhhofifaaDoor.Hd
