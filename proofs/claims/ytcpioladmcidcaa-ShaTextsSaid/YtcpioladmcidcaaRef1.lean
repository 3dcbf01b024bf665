/- The reference's tables are the code's own constants. -/
import Derived.Test.YtcpioladmcidcaaKit
import Derived.Test.YtcpioladmcidcaaU32
import Derived.Test.YtcpioladmcidcaaSha
import Derived.Test.YtcpioladmcidcaaSha0
import Derived.Test.YtcpioladmcidcaaLit
import Derived.Test.YtcpioladmcidcaaRootA
import Derived.Test.YtcpioladmcidcaaRootB
import Derived.Test.YtcpioladmcidcaaRootC
namespace Go.Proofs.Ytcpioladmcidcaa
open Go.RowKit Go.Proofs

theorem primeL_lit : primeL = [
  2, 3, 5, 7, 11, 13, 17, 19, 23, 29, 31, 37, 41, 43, 47, 53, 59, 61, 67, 71, 73, 79, 83, 89, 97, 101, 103, 107, 109, 113, 127, 131, 137, 139, 149, 
  151, 157, 163, 167, 173, 179, 181, 191, 193, 197, 199, 211, 223, 227, 229, 233, 239, 241, 251, 257, 263, 269, 271, 277, 281, 283, 293, 307, 311] := by decide +kernel

theorem tab_lit : tabL = (h0S.l ++ kL).map iw := by
  unfold tabL
  rw [primeL_lit]
  simp only [List.take_succ_cons, List.take_zero, List.map_cons, List.map_nil,
  rt2_2, rt2_3, rt2_5, rt2_7, rt2_11, rt2_13, rt2_17, rt2_19, rt3_2, rt3_3, rt3_5, rt3_7, rt3_11, rt3_13, rt3_17, rt3_19, rt3_23, rt3_29, rt3_31, 
  rt3_37, rt3_41, rt3_43, rt3_47, rt3_53, rt3_59, rt3_61, rt3_67, rt3_71, rt3_73, rt3_79, rt3_83, rt3_89, rt3_97, rt3_101, rt3_103, rt3_107, rt3_109, 
  rt3_113, rt3_127, rt3_131, rt3_137, rt3_139, rt3_149, rt3_151, rt3_157, rt3_163, rt3_167, rt3_173, rt3_179, rt3_181, rt3_191, rt3_193, rt3_197, 
  rt3_199, rt3_211, rt3_223, rt3_227, rt3_229, rt3_233, rt3_239, rt3_241, rt3_251, rt3_257, rt3_263, rt3_269, rt3_271, rt3_277, rt3_281, rt3_283, 
  rt3_293, rt3_307, rt3_311]
  decide +kernel

end Go.Proofs.Ytcpioladmcidcaa
