/- All terms. -/
import Derived.Test.YtnpifaanhofonaaGreatDoorTermsA
import Derived.Test.YtnpifaanhofonaaGreatDoorTermsB
