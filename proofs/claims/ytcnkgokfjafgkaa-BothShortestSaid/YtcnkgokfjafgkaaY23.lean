/- Texts of the proof, put together: what it uses. -/
import Derived.Test.YtcnkgokfjafgkaaY19
import Derived.Test.YtcnkgokfjafgkaaY20
import Derived.Test.YtcnkgokfjafgkaaY21
set_option maxRecDepth 100000
set_option maxHeartbeats 16000000
namespace Go.Proofs.Ytcnkgokfjafgkaa
open Go.RowKit Go.Maps Go.Sort
theorem cn_ok : ∀ t ∈ cnN,GdOk t := fun t ht => by
 simp [cnN] at ht
 subst ht
 exact ⟨⟨by decide,by decide⟩,⟨by decide,by decide⟩,⟨by decide,by decide⟩⟩
end Go.Proofs.Ytcnkgokfjafgkaa
