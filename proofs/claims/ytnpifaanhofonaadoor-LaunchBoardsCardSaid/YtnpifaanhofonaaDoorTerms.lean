/- All terms. -/
import Derived.Test.YtnpifaanhofonaaDoorTermsA
