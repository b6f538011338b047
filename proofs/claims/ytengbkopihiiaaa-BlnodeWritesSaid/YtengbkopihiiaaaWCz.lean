/-
  What is asked of the program, met.
-/
import Derived.Test.YtengbkopihiiaaaWCt
import Derived.Test.YtengbkopihiiaaaWCi
import Derived.Test.YtengbkopihiiaaaWCg
namespace Go.Proofs.Ytengbkopihiiaaa
open Go.RowKit Go.Lib
set_option linter.unusedVariables false
set_option maxRecDepth 20000
set_option linter.unusedSimpArgs false

theorem in_fits {w : World} {n : Nd} {AK AV AD : Option Addr} (h : In w n AK AV AD) : Fits w n.leaf n.keys n.vals n.kids n.high AK AV AD := ⟨h.k, h.v, h.d, h.fk, h.fv, h.fh, h.lk, h.lv, h.ld⟩
theorem find_c : FindC := fun leaf K nv nd high bnd slot gen AK AV AD ck cv cd key w hR hf hk hn => by
  have := findP leaf K (List.replicate nv ⟨#[]⟩) (List.replicate nd ⟨0, 0⟩) high bnd slot gen AK AV AD ck cv cd key w hR hn
  simpa only [List.length_replicate] using this
theorem right_c : RightC := fun n AK AV AD ck cv cd w h => by
  obtain ⟨leaf, K, V, D, high, bnd, ⟨sl, ge⟩⟩ := n
  exact rightQ leaf K V D high bnd sl ge AK AV AD ck cv cd w h.k (Nat.le_trans h.lk (by decide))
theorem covers_c : CoversC := fun n AK AV AD ck cv cd key w h hk => by
  obtain ⟨leaf, K, V, D, high, bnd, ⟨sl, ge⟩⟩ := n
  exact coversP leaf K V D high bnd sl ge AK AV AD ck cv cd key w
theorem full_c : FullC := fun n AK AV AD ck cv cd w h => by
  obtain ⟨leaf, K, V, D, high, bnd, ⟨sl, ge⟩⟩ := n
  exact fullP leaf K V D high bnd sl ge AK AV AD ck cv cd w (Nat.le_trans h.lk (by decide))
theorem kid_c : KidC := fun n AK AV AD ck cv cd key w h hk => by
  obtain ⟨leaf, K, V, D, high, bnd, ⟨sl, ge⟩⟩ := n
  exact kidN leaf K V D high bnd sl ge AK AV AD ck cv cd key w (in_fits h)
theorem put_c : PutC := fun n AK AV AD ck cv cd key val w h hk hv => by
  obtain ⟨leaf, K, V, D, high, bnd, ⟨sl, ge⟩⟩ := n
  exact putN leaf K V D high bnd sl ge AK AV AD ck cv cd key val w (in_fits h) hk hv
theorem del_c : DelC := fun n AK AV AD ck cv cd key w h hk => by
  obtain ⟨leaf, K, V, D, high, bnd, ⟨sl, ge⟩⟩ := n
  exact delN leaf K V D high bnd sl ge AK AV AD ck cv cd key w (in_fits h)
theorem add_c : AddC := fun n AK AV AD ck cv cd sep kid w h hk => by
  obtain ⟨leaf, K, V, D, high, bnd, ⟨sl, ge⟩⟩ := n
  exact addN leaf K V D high bnd sl ge AK AV AD ck cv cd sep kid w (in_fits h) hk
theorem split_c (n : Nd) (AK AV AD : Option Addr) (ck cv cd : Nat) (nxt : Hn) (w : World) (h : In w n AK AV AD) :
    Calls Try.prog 17 #[.agg #[.bool n.leaf, .slice AK n.keys.length ck, .slice AV n.vals.length cv, .slice AD n.kids.length cd, .string n.high, .bool n.bnd, .int .i64 n.nx.slot, .int .u64 n.nx.gen], .agg #[.int .i64 nxt.slot, .int .u64 nxt.gen]] w fun e w' => SplRes n nxt w e w' := by
  obtain ⟨leaf, K, V, D, high, bnd, ⟨sl, ge⟩⟩ := n
  exact splitN leaf K V D high bnd sl ge AK AV AD ck cv cd nxt w (in_fits h)
theorem awake_c (w : World) : Calls Try.prog 20 #[] w fun e w' => e = .returned (.bool true) ∧ Turn No w w' := awake_any find_c put_c right_c w
theorem value_c (leaf : Bool) (K V : List ByteArray) (nd : Nat) (high : ByteArray) (bnd : Bool) (slot gen : Int) (AK AV AD : Option Addr) (ck cv cd : Nat) (key : ByteArray) (w : World) (hK : Row w AK (kcs K)) (hV : Row w AV (kcs V)) (hf : ∀ k ∈ K, Fit k) (hk : Fit key) (n1 : K.length ≤ 100000) (n2 : V.length ≤ 100000) :
    Calls Try.prog 36 #[.agg #[.bool leaf, .slice AK K.length ck, .slice AV V.length cv, .slice AD nd cd, .string high, .bool bnd, .int .i64 slot, .int .u64 gen], .string key] w fun e w' => e = .returned (valT K V key) ∧ Turn No w w' :=
  value_any find_c leaf K V nd high bnd slot gen AK AV AD ck cv cd key w hK hV hf hk n1 n2
end Go.Proofs.Ytengbkopihiiaaa
