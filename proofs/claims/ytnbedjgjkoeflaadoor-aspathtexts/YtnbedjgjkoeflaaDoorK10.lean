/- The contracts that the laws ask of the program, met. -/
import Derived.Test.YtnbedjgjkoeflaaDoorK3
import Derived.Test.YtnbedjgjkoeflaaDoorK6
import Derived.Test.YtnbedjgjkoeflaaDoorK7
import Derived.Test.YtnbedjgjkoeflaaDoorK8
import Derived.Test.YtnbedjgjkoeflaaDoorK9
namespace Go.Proofs.YtnbedjgjkoeflaaDoor
open Go.RowKit Go.Sort

theorem kit : Kit Tab := {
  on := fun h hb => h.on hb
  may := fun ao ca l r h W _ hA hl => may_is ao ca l r h W hA hl
  text := fun ao ca l t h W hT hA hl => text_is ao ca l t h W hT hA hl
  prepend := fun ao ca l n t x q h W _ hA hC hl => prepend_is ao ca l n t x q h W hA hC hl
  has := fun ao ca l n r h W _ hA hl => (has_is ao ca l n r h W hA hl).mono fun _ _ h => ⟨h.1, h.2 ▸ brefl W⟩
  first := fun ao ca l r h W _ hA _ => (first_is ao ca l r h W hA).mono fun _ _ h => ⟨h.1, h.2 ▸ brefl W⟩
  origin := fun ao ca l r h W _ hA hl => (origin_is ao ca l r h W hA hl).mono fun _ _ h => ⟨h.1, h.2 ▸ brefl W⟩
  loops := fun ao ca l r h W _ hA hl => loops_is ao ca l r h W hA hl
  compare := fun ao bo ca cb a b r h W _ hA hB ha hb => compare_is ao bo ca cb a b r h W hA hB ha hb
  tail := fun ao bo ca cb a b r h W _ hA hB _ ha hb => tail_is ao bo ca cb a b r h W hA hB ha hb
  runs := fun ao ca l x h W _ hA hl => runs_is ao ca l x h W hA (by omega)
  of := fun ao ca x y q h W _ hA hx => of_is ao ca x y q h W hA (by omega)
  short := fun ao ca l x h W _ hA hl => (short_is ao ca l x h W hA hl).mono fun _ _ ⟨o, c, h1, h2, h3⟩ => ⟨o, c, h1, Is.slot_own h2, h3⟩ }
end Go.Proofs.YtnbedjgjkoeflaaDoor
