/- The run of works. -/
import Derived.Test.YthobfecblpnnnaaGreatDoorPieB
