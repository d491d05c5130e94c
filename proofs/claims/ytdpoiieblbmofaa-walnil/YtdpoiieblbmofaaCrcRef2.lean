/- What the reference of package crc does: power, Join. -/
import Derived.Test.YtdpoiieblbmofaaCrcRef
namespace Go.Proofs.Ytdpoiieblbmofaa
open Go.RowKit

end Go.Proofs.Ytdpoiieblbmofaa
