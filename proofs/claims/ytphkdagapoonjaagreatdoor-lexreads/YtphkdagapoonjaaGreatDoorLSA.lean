/- The library's own that lex calls, by the shelf. (Stage 15.) -/
import Derived.Test.YtphkdagapoonjaaGreatDoorZFO
import Derived.Shelf.Lay
import Derived.Shelf.Strings.BuilderK
import Derived.Shelf.Strings.BuilderF
import Derived.Shelf.Strings.BuilderRune
import Derived.Shelf.Utf8.AppendRune
import Derived.Shelf.Strings.Cut
import Derived.Shelf.Strings.Prefix
import Derived.Shelf.Small.Wraps
import Derived.Shelf.Small.Utf8
import Derived.Shelf.GgClosure.StringsRunes
import Derived.Shelf.Strings.IndexAnyAll
import Derived.Shelf.Unicode.DecodeAny
import Derived.Shelf.Unicode.ValidAny
import Derived.Shelf.Pu.Clone
import Derived.Shelf.Strconv.ToError
import Derived.Shelf.Strconv.ToErrorRange
import Derived.Shelf.LaysC
import Derived.Ground.NamesProg
import Derived.Ground.GgwProg
import Derived.Ground.MpProg
namespace Go.Proofs
open Go.Shelf Go.RowKit
shelf_lay Lays.n170 Nm 170 at Tryz as Tryz.l170
shelf_lay Lays.n169 Nm 169 at Tryz as Tryz.l169
shelf_lay Lays.n242 Nm 242 at Tryz as Tryz.l242
shelf_lay Lays.n119 Nm 119 at Tryz as Tryz.l119
shelf_lay Lays.n103 Nm 103 at Tryz as Tryz.l103
shelf_lay Lays.n145 Nm 145 at Tryz as Tryz.l145
shelf_lay Lays.n99 Nm 99 at Tryz as Tryz.l99
shelf_lay Lays.n102 Nm 102 at Tryz as Tryz.l102
shelf_lay Lays.n153 Nm 153 at Tryz as Tryz.l153
shelf_lay Lays.n197 Nm 197 at Tryz as Tryz.l197
shelf_lay Lays.n196 Nm 196 at Tryz as Tryz.l196
shelf_lay LaysGw.n17 Ggw 17 at Tryz as Tryz.lGw17
shelf_lay LaysPu.n25 Mp 25 at Tryz as Tryz.lClo
shelf_lay LaysC.n245 Nm 245 at Tryz as Tryz.lC245
end Go.Proofs
