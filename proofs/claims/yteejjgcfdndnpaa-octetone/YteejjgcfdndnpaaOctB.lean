/- Of, for layer 1's texts: it lies in OctOf. -/
import Derived.Test.YteejjgcfdndnpaaOctA
