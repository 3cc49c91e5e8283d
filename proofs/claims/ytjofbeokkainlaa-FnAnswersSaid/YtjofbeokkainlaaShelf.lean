/- No contract of the library's is wanted here. -/
import Derived.Test.YtjofbeokkainlaaProg
namespace Go.Proofs.Ytjofbeokkainlaa
end Go.Proofs.Ytjofbeokkainlaa
