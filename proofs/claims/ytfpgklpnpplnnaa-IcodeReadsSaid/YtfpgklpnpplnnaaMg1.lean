/-
  Several texts in one: CntPure.
-/
namespace Go.Proofs.Ytfpgklpnpplnnaa

end Go.Proofs.Ytfpgklpnpplnnaa
