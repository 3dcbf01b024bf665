/- The reference's roots, one by one. -/
import Derived.Test.YtcpioladmcidcaaKit
import Derived.Test.YtcpioladmcidcaaSha0
namespace Go.Proofs.Ytcpioladmcidcaa
open Go.RowKit Go.Proofs

theorem rt2_2 : rootS 2 2 = 1779033703 := by decide +kernel

theorem rt2_3 : rootS 3 2 = 3144134277 := by decide +kernel

theorem rt2_5 : rootS 5 2 = 1013904242 := by decide +kernel

theorem rt2_7 : rootS 7 2 = 2773480762 := by decide +kernel

theorem rt2_11 : rootS 11 2 = 1359893119 := by decide +kernel

theorem rt2_13 : rootS 13 2 = 2600822924 := by decide +kernel

theorem rt2_17 : rootS 17 2 = 528734635 := by decide +kernel

theorem rt2_19 : rootS 19 2 = 1541459225 := by decide +kernel

theorem rt3_2 : rootS 2 3 = 1116352408 := by decide +kernel

theorem rt3_3 : rootS 3 3 = 1899447441 := by decide +kernel

theorem rt3_5 : rootS 5 3 = 3049323471 := by decide +kernel

theorem rt3_7 : rootS 7 3 = 3921009573 := by decide +kernel

theorem rt3_11 : rootS 11 3 = 961987163 := by decide +kernel

theorem rt3_13 : rootS 13 3 = 1508970993 := by decide +kernel

theorem rt3_17 : rootS 17 3 = 2453635748 := by decide +kernel

theorem rt3_19 : rootS 19 3 = 2870763221 := by decide +kernel

theorem rt3_23 : rootS 23 3 = 3624381080 := by decide +kernel

theorem rt3_29 : rootS 29 3 = 310598401 := by decide +kernel

theorem rt3_31 : rootS 31 3 = 607225278 := by decide +kernel

theorem rt3_37 : rootS 37 3 = 1426881987 := by decide +kernel

theorem rt3_41 : rootS 41 3 = 1925078388 := by decide +kernel

theorem rt3_43 : rootS 43 3 = 2162078206 := by decide +kernel

end Go.Proofs.Ytcpioladmcidcaa
