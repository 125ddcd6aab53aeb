import Derived.Test.YtmgadjnllahbiaaDoorProg
namespace Go.Proofs
end Go.Proofs
