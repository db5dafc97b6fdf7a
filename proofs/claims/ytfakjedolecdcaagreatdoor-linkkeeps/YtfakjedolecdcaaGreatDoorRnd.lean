/-
  package plant: the word of rounds. Nothing is claimed here.
-/
import Derived.Test.YtfakjedolecdcaaGreatDoorProg
namespace Go.Proofs.YtfakjedolecdcaaGreatDoor
def roundsB : List UInt8 := [114, 111, 117, 110, 100, 115]
end Go.Proofs.YtfakjedolecdcaaGreatDoor
