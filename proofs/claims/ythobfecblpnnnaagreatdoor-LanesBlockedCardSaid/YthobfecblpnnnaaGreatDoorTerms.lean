/- All terms. -/
import Derived.Test.YthobfecblpnnnaaGreatDoorTermsA
