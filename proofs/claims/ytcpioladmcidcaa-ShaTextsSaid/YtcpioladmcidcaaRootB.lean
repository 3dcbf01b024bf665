/- The reference's roots, one by one. -/
import Derived.Test.YtcpioladmcidcaaKit
import Derived.Test.YtcpioladmcidcaaSha0
namespace Go.Proofs.Ytcpioladmcidcaa
open Go.RowKit Go.Proofs

theorem rt3_47 : rootS 47 3 = 2614888103 := by decide +kernel

theorem rt3_53 : rootS 53 3 = 3248222580 := by decide +kernel

theorem rt3_59 : rootS 59 3 = 3835390401 := by decide +kernel

theorem rt3_61 : rootS 61 3 = 4022224774 := by decide +kernel

theorem rt3_67 : rootS 67 3 = 264347078 := by decide +kernel

theorem rt3_71 : rootS 71 3 = 604807628 := by decide +kernel

theorem rt3_73 : rootS 73 3 = 770255983 := by decide +kernel

theorem rt3_79 : rootS 79 3 = 1249150122 := by decide +kernel

theorem rt3_83 : rootS 83 3 = 1555081692 := by decide +kernel

theorem rt3_89 : rootS 89 3 = 1996064986 := by decide +kernel

theorem rt3_97 : rootS 97 3 = 2554220882 := by decide +kernel

theorem rt3_101 : rootS 101 3 = 2821834349 := by decide +kernel

theorem rt3_103 : rootS 103 3 = 2952996808 := by decide +kernel

theorem rt3_107 : rootS 107 3 = 3210313671 := by decide +kernel

theorem rt3_109 : rootS 109 3 = 3336571891 := by decide +kernel

theorem rt3_113 : rootS 113 3 = 3584528711 := by decide +kernel

theorem rt3_127 : rootS 127 3 = 113926993 := by decide +kernel

theorem rt3_131 : rootS 131 3 = 338241895 := by decide +kernel

theorem rt3_137 : rootS 137 3 = 666307205 := by decide +kernel

theorem rt3_139 : rootS 139 3 = 773529912 := by decide +kernel

theorem rt3_149 : rootS 149 3 = 1294757372 := by decide +kernel

theorem rt3_151 : rootS 151 3 = 1396182291 := by decide +kernel

theorem rt3_157 : rootS 157 3 = 1695183700 := by decide +kernel

theorem rt3_163 : rootS 163 3 = 1986661051 := by decide +kernel

theorem rt3_167 : rootS 167 3 = 2177026350 := by decide +kernel

end Go.Proofs.Ytcpioladmcidcaa
