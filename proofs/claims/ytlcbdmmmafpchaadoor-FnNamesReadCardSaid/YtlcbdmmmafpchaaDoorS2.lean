/- The shelf: all of it lies in S. -/
import Derived.Test.YtlcbdmmmafpchaaDoorS
namespace Go.Proofs
end Go.Proofs
