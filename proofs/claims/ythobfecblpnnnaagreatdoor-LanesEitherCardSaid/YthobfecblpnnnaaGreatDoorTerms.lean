/- All terms. -/
import Derived.Test.YthobfecblpnnnaaGreatDoorTermsA
import Derived.Test.YthobfecblpnnnaaGreatDoorTermsB
