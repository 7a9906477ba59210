/- TallyNone's walk, paid. -/
import Derived.Test.YtifaclbafmpiiaaTalJoin
namespace Go.Proofs.Ytifaclbafmpiiaa.Tal
end Go.Proofs.Ytifaclbafmpiiaa.Tal
