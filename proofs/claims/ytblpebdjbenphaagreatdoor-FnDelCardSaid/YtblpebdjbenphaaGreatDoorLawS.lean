
/- What the drawn laws on stores hold while they walk. -/
import Derived.Test.YtblpebdjbenphaaGreatDoorDrawPu
import Derived.Test.YtblpebdjbenphaaGreatDoorLawM
import Derived.Test.YtblpebdjbenphaaGreatDoorSameSt
import Derived.Test.YtblpebdjbenphaaGreatDoorCreK
namespace Go.Proofs.YtblpebdjbenphaaGreatDoor
open Go.ChangeShapes Go.WideShapes Go.ChangeAt Go.RowKit
set_option linter.unusedVariables false
set_option maxRecDepth 100000

/-- The drawn store at S, what the program came to at T, what the model came to at U. -/
structure LP (w : World) (S T U : Nat) (q1 : Option Addr) (n1 c1 : Nat) (q2 : Option Addr) (n2 c2 : Nat) (l : Objs) (m : Gones) (q3 : Option Addr) (c3 : Nat) (q4 : Option Addr) (c4 : Nat) (q5 : Option Addr) (c5 : Nat) (q6 : Option Addr) (c6 : Nat) (nl nm : Nat) (L : Objs) (M : Gones) (wr : World) : Prop where
  below : Below w.heap.size w wr
  rs : Row wr S 27 #[.slice q1 n1 c1, .slice q2 n2 c2]
  rt : Row wr T 27 #[.slice q3 nl c3, .slice q4 nm c4]
  ru : Row wr U 27 #[.slice q5 nl c5, .slice q6 nm c6]
  s : StoD wr q1 n1 c1 q2 n2 c2 l m
  t : StoI wr q3 nl c3 L q4 nm c4 M
  u : StoAt wr q5 nl L q6 nm M
section
variable {w : World} {S T U : Nat} {q1 : Option Addr} {n1 c1 : Nat} {q2 : Option Addr} {n2 c2 : Nat} {l : Objs} {m : Gones} {q3 : Option Addr} {c3 : Nat} {q4 : Option Addr} {c4 : Nat} {q5 : Option Addr} {c5 : Nat} {q6 : Option Addr} {c6 : Nat} {nl nm : Nat} {L : Objs} {M : Gones} {wr : World}
theorem LP.keep {w2 : World} (h : LP w S T U q1 n1 c1 q2 n2 c2 l m q3 c3 q4 c4 q5 c5 q6 c6 nl nm L M wr) (hB : Below wr.heap.size wr w2) : LP w S T U q1 n1 c1 q2 n2 c2 l m q3 c3 q4 c4 q5 c5 q6 c6 nl nm L M w2 :=
  ⟨below_via h.below hB, h.rs.keep hB, h.rt.keep hB, h.ru.keep hB, h.s.keep hB, h.t.keep hB, h.u.keep hB⟩
theorem LP.al (h : LP w S T U q1 n1 c1 q2 n2 c2 l m q3 c3 q4 c4 q5 c5 q6 c6 nl nm L M wr) (o : Obj) : LP w S T U q1 n1 c1 q2 n2 c2 l m q3 c3 q4 c4 q5 c5 q6 c6 nl nm L M (wr.alloc o) := h.keep (below_alloc (Below.refl _ _) o)
theorem LP.look (h : LP w S T U q1 n1 c1 q2 n2 c2 l m q3 c3 q4 c4 q5 c5 q6 c6 nl nm L M wr) {b off k : Nat} (hq : q1 = some ⟨b, off, none⟩) (hk : k < n1) : wr.cell? ⟨b, off + k * 3, none⟩ = some (.string (obj0 l k)) ∧ wr.cell? ⟨b, off + k * 3 + 1, none⟩ = some (.int .i64 (obj1 l k)) ∧ wr.cell? ⟨b, off + k * 3 + 2, none⟩ = some (.string (obj2 l k)) := by
  rcases h.s.at_.at_.o.src with h0 | ⟨b', off', hq', _, hc⟩
  · omega
  · rw [hq] at hq'
    simp only [Option.some.injEq, Addr.mk.injEq, and_true] at hq'
    obtain ⟨rfl, rfl⟩ := hq'
    exact hc k hk
end
theorem LP.mk' {w w1 w2 w3 : World} {q1 : Option Addr} {n1 c1 : Nat} {q2 : Option Addr} {n2 c2 : Nat} {l : Objs} {m : Gones} {q3 : Option Addr} {c3 : Nat} {q4 : Option Addr} {c4 : Nat} {q5 : Option Addr} {c5 : Nat} {q6 : Option Addr} {c6 : Nat} {nl nm : Nat} {L : Objs} {M : Gones}
    (hB : Below w.heap.size w w1) (hs : StoD w1 q1 n1 c1 q2 n2 c2 l m)
    (hB2 : Below (w1.alloc (.cells #[.slice q1 n1 c1, .slice q2 n2 c2] 27)).heap.size (w1.alloc (.cells #[.slice q1 n1 c1, .slice q2 n2 c2] 27)) w2) {b2 : Nat} (hk2 : StoK b2 w2 q3 nl c3 q4 nm c4 L M)
    (hB3 : Below (w2.alloc (.cells #[.slice q3 nl c3, .slice q4 nm c4] 27)).heap.size (w2.alloc (.cells #[.slice q3 nl c3, .slice q4 nm c4] 27)) w3) {b3 : Nat} (hk3 : StoK b3 w3 q5 nl c5 q6 nm c6 L M) (hp : StoP L M) :
    LP w w1.heap.size w2.heap.size w3.heap.size q1 n1 c1 q2 n2 c2 l m q3 c3 q4 c4 q5 c5 q6 c6 nl nm L M (w3.alloc (.cells #[.slice q5 nl c5, .slice q6 nm c6] 27)) := by
  have a1 := below_alloc (Below.refl w1.heap.size w1) (.cells #[.slice q1 n1 c1, .slice q2 n2 c2] 27)
  have a2 := below_alloc (Below.refl w2.heap.size w2) (.cells #[.slice q3 nl c3, .slice q4 nm c4] 27)
  have a3 := below_alloc (Below.refl w3.heap.size w3) (.cells #[.slice q5 nl c5, .slice q6 nm c6] 27)
  exact ⟨below_via (below_via (below_via (below_via (below_via hB a1) hB2) a2) hB3) a3, (((((Row.new w1 _ _).keep hB2).keep a2).keep hB3).keep a3), (((Row.new w2 _ _).keep hB3).keep a3), Row.new w3 _ _, (((((hs.keep a1).keep hB2).keep a2).keep hB3).keep a3), ((((hk2.in_ hp).keep a2).keep hB3).keep a3), ((hk3.sto hp).keep a3)⟩
theorem get_ret {key : ByteArray} {l : Objs} {w : World} {e : Ending} {w' : World} {s d : ByteArray} {v : Int} {b : Bool} (hq : getAux key l = ((s, v, d), b)) (h : MadeGet (getAux key l) w e w') : e = .returned (.tuple #[.agg #[.string s, .int .i64 v, .string d], .bool b]) ∧ Below w.heap.size w w' := by
  rw [hq] at h; exact h
end Go.Proofs.YtblpebdjbenphaaGreatDoor
