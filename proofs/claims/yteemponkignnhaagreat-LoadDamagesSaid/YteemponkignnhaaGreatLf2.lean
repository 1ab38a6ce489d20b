import Derived.Test.YteemponkignnhaaGreatLc3
set_option maxRecDepth 10000
noncomputable section
namespace Go.Proofs.YteemponkignnhaaGreat.Ways
open Go Go.Ex Go.RowKit Go.Turn
end Go.Proofs.YteemponkignnhaaGreat.Ways
set_option maxRecDepth 10000
noncomputable section
namespace Go.Proofs.YteemponkignnhaaGreat.Ways
open Go Go.Ex Go.RowKit Go.Turn
section
end
section
end
section
variable {ds out : List Value} {m c2 l : Nat} {sh j : Int} {t2 s2 : Nat} {e2 : Bool}
end
section
variable {ds out : List Value} {m c2 l : Nat} {sh j : Int} {t2 s2 : Nat} {e2 : Bool}
end
section
variable {ds out : List Value} {m c2 l : Nat} {sh j : Int} {t2 s2 : Nat} {e2 : Bool}
end
end Go.Proofs.YteemponkignnhaaGreat.Ways
set_option maxRecDepth 10000
noncomputable section
namespace Go.Proofs.YteemponkignnhaaGreat.Ways
open Go Go.Ex Go.RowKit Go.Turn
section
end
section
end
section
variable {ds : List Value} {m c2 : Nat} {sh j : Int} {t2 s2 : Nat} {e2 : Bool}
end
section
variable {ds : List Value} {m c2 : Nat} {sh j : Int} {t2 s2 : Nat} {e2 : Bool}
end
section
variable {ds : List Value} {m c2 : Nat} {sh j : Int} {t2 s2 : Nat} {e2 : Bool}
end
end Go.Proofs.YteemponkignnhaaGreat.Ways
set_option maxRecDepth 10000
noncomputable section
namespace Go.Proofs.YteemponkignnhaaGreat.Ways
open Go Go.Ex Go.RowKit Go.Turn
section
end
section
end
section
variable {ds out : List Value} {m c2 l : Nat} {sh j : Int} {t2 s2 : Nat} {e2 : Bool}
end
section
variable {ds out : List Value} {m c2 l : Nat} {sh j : Int} {t2 s2 : Nat} {e2 : Bool}
end
section
variable {ds out : List Value} {m c2 l : Nat} {sh j : Int} {t2 s2 : Nat} {e2 : Bool}
end
end Go.Proofs.YteemponkignnhaaGreat.Ways
set_option maxRecDepth 10000
noncomputable section
namespace Go.Proofs.YteemponkignnhaaGreat.Ways
open Go Go.Ex Go.RowKit Go.Turn
section
end
section
end
section
variable {ds out : List Value} {m c2 l : Nat} {sh j : Int} {t2 s2 : Nat} {e2 : Bool}
end
section
variable {ds out : List Value} {m c2 l : Nat} {sh j : Int} {t2 s2 : Nat} {e2 : Bool}
end
section
variable {ds out : List Value} {m c2 l : Nat} {sh j : Int} {t2 s2 : Nat} {e2 : Bool}
end
end Go.Proofs.YteemponkignnhaaGreat.Ways
set_option maxRecDepth 10000
noncomputable section
namespace Go.Proofs.YteemponkignnhaaGreat.Ways
open Go Go.Ex Go.RowKit Go.Turn
section
end
section
end
section
variable {ds out : List Value} {m c2 l : Nat} {sh j : Int} {t2 s2 : Nat} {e2 : Bool}
end
section
variable {ds out : List Value} {m c2 l : Nat} {sh j : Int} {t2 s2 : Nat} {e2 : Bool}
end
section
variable {ds out : List Value} {m c2 l : Nat} {sh j : Int} {t2 s2 : Nat} {e2 : Bool}
end
end Go.Proofs.YteemponkignnhaaGreat.Ways
