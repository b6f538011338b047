/-
  What is asked of the program (a node that comes in, an answer that shares nothing with it), and the law's awake over that.
-/
import Derived.Test.YtengbkopihiiaaaWNo
namespace Go.Proofs.Ytengbkopihiiaaa
open Go.RowKit Go.Lib
set_option linter.unusedVariables false
set_option maxRecDepth 20000
set_option maxRecDepth 20000
set_option linter.unusedSimpArgs false

/-- A node that comes in. -/
structure In (w : World) (n : Nd) (AK AV AD : Option Addr) : Prop where
  k : Row w AK (kcs n.keys)
  v : Row w AV (kcs n.vals)
  d : Row w AD (hcs n.kids)
  fk : ∀ k ∈ n.keys, Fit k
  fv : ∀ k ∈ n.vals, Fit k
  fh : Fit n.high
  lk : n.keys.length ≤ 10000
  lv : n.vals.length ≤ 10000
  ld : n.kids.length ≤ 10000
/-- An answer: rows that lie from block Z on, and may be written over. -/
structure Got (Z : Nat) (w : World) (n : Nd) (AK AV AD : Option Addr) : Prop where
  k : Row w AK (kcs n.keys)
  v : Row w AV (kcs n.vals)
  d : Row w AD (hcs n.kids)
  wk : Wt w 9 1 AK n.keys.length
  wv : Wt w 9 1 AV n.vals.length
  wd : Wt w 27 2 AD n.kids.length
  zk : ∀ b, ablk AK = some b → Z ≤ b
  zv : ∀ b, ablk AV = some b → Z ≤ b
  zd : ∀ b, ablk AD = some b → Z ≤ b
theorem Own.got {Z : Nat} {w : World} {n : Nd} {AK AV AD : Option Addr} {ck cv cd : Nat} (h : Own Z w n.keys n.vals n.kids AK ck AV cv AD cd) : Got Z w n AK AV AD :=
  ⟨row_of_own h.k, row_of_own h.v, row_of_own h.d, wt_own h.k, wt_own h.v, wt_own h.d, fun b hb => (own_at h.k hb).1, fun b hb => (own_at h.v hb).1, fun b hb => (own_at h.d hb).1⟩
theorem Got.no {Z : Nat} {w w' : World} {n : Nd} {AK AV AD : Option Addr} (h : Got Z w n AK AV AD) (t : Turn No w w') : Got Z w' n AK AV AD := ⟨h.k.no t, h.v.no t, h.d.no t, h.wk.no t, h.wv.no t, h.wd.no t, h.zk, h.zv, h.zd⟩
theorem In.no {w w' : World} {n : Nd} {AK AV AD : Option Addr} (h : In w n AK AV AD) (t : Turn No w w') : In w' n AK AV AD := ⟨h.k.no t, h.v.no t, h.d.no t, h.fk, h.fv, h.fh, h.lk, h.lv, h.ld⟩
/-- A leaf that is right and covers. -/
def LeafR (n : Nd) (key : ByteArray) : Prop := NdRight n ∧ n.leaf = true ∧ NdCov n key
def PutR (n : Nd) (key val : ByteArray) (m : Nd) (old : ByteArray) (had : Bool) : Prop :=
  (LeafR n key → m = { n with keys := (putL (zipP n.keys n.vals) key val).map Pr.k, vals := (putL (zipP n.keys n.vals) key val).map Pr.v } ∧ old = (getL (zipP n.keys n.vals) key).getD ⟨#[]⟩ ∧ had = (getL (zipP n.keys n.vals) key).isSome) ∧ (¬ LeafR n key → m = n ∧ old = ⟨#[]⟩ ∧ had = false)
def DelR (n : Nd) (key : ByteArray) (m : Nd) (old : ByteArray) (had : Bool) : Prop :=
  (LeafR n key → m = { n with keys := (delL (zipP n.keys n.vals) key).map Pr.k, vals := (delL (zipP n.keys n.vals) key).map Pr.v } ∧ old = (getL (zipP n.keys n.vals) key).getD ⟨#[]⟩ ∧ had = (getL (zipP n.keys n.vals) key).isSome) ∧ (¬ LeafR n key → m = n ∧ old = ⟨#[]⟩ ∧ had = false)
/-- An inner node that is right, covers, and has it not. -/
def AddO (n : Nd) (sep : ByteArray) : Prop := NdRight n ∧ n.leaf = false ∧ NdCov n sep ∧ sep ∉ n.keys
def AddR (n : Nd) (sep : ByteArray) (kid : Hn) (m : Nd) : Prop :=
  (AddO n sep → m = { n with keys := ins n.keys (plc n.keys sep) sep, kids := ins n.kids (plc n.keys sep + 1) kid }) ∧ (¬ AddO n sep → m = n)
def KidR (n : Nd) (key : ByteArray) (h : Hn) (is : Bool) : Prop :=
  (NdRight n ∧ n.leaf = false ∧ NdCov n key → is = true ∧ n.kids[kix n.keys key]? = some h) ∧ (¬ (NdRight n ∧ n.leaf = false ∧ NdCov n key) → is = false ∧ h = ⟨0, 0⟩)
def RightC : Prop := ∀ (n : Nd) (AK AV AD : Option Addr) (ck cv cd : Nat) (w : World), In w n AK AV AD → Calls Try.prog 25 #[.agg #[.bool n.leaf, .slice AK n.keys.length ck, .slice AV n.vals.length cv, .slice AD n.kids.length cd, .string n.high, .bool n.bnd, .int .i64 n.nx.slot, .int .u64 n.nx.gen]] w fun e w' => BRes (NdRight n) w e w'
def CoversC : Prop := ∀ (n : Nd) (AK AV AD : Option Addr) (ck cv cd : Nat) (key : ByteArray) (w : World), In w n AK AV AD → Fit key → Calls Try.prog 26 #[.agg #[.bool n.leaf, .slice AK n.keys.length ck, .slice AV n.vals.length cv, .slice AD n.kids.length cd, .string n.high, .bool n.bnd, .int .i64 n.nx.slot, .int .u64 n.nx.gen], .string key] w fun e w' => BRes (NdCov n key) w e w'
def FullC : Prop := ∀ (n : Nd) (AK AV AD : Option Addr) (ck cv cd : Nat) (w : World), In w n AK AV AD → Calls Try.prog 27 #[.agg #[.bool n.leaf, .slice AK n.keys.length ck, .slice AV n.vals.length cv, .slice AD n.kids.length cd, .string n.high, .bool n.bnd, .int .i64 n.nx.slot, .int .u64 n.nx.gen]] w fun e w' => BRes (4 < n.keys.length) w e w'
def KidC : Prop := ∀ (n : Nd) (AK AV AD : Option Addr) (ck cv cd : Nat) (key : ByteArray) (w : World), In w n AK AV AD → Fit key → Calls Try.prog 15 #[.agg #[.bool n.leaf, .slice AK n.keys.length ck, .slice AV n.vals.length cv, .slice AD n.kids.length cd, .string n.high, .bool n.bnd, .int .i64 n.nx.slot, .int .u64 n.nx.gen], .string key] w fun e w' => ∃ h is, e = .returned (.tuple #[.agg #[.int .i64 h.slot, .int .u64 h.gen], .bool is]) ∧ KidR n key h is ∧ Turn No w w'
def PutC : Prop := ∀ (n : Nd) (AK AV AD : Option Addr) (ck cv cd : Nat) (key val : ByteArray) (w : World), In w n AK AV AD → Fit key → Fit val → Calls Try.prog 12 #[.agg #[.bool n.leaf, .slice AK n.keys.length ck, .slice AV n.vals.length cv, .slice AD n.kids.length cd, .string n.high, .bool n.bnd, .int .i64 n.nx.slot, .int .u64 n.nx.gen], .string key, .string val] w fun e w' =>
  ∃ m BK dk BV dv BD dd old had, e = .returned (.tuple #[.agg #[.bool m.leaf, .slice BK m.keys.length dk, .slice BV m.vals.length dv, .slice BD m.kids.length dd, .string m.high, .bool m.bnd, .int .i64 m.nx.slot, .int .u64 m.nx.gen], .string old, .bool had]) ∧ PutR n key val m old had ∧ Got w.heap.size w' m BK BV BD ∧ Turn No w w'
def DelC : Prop := ∀ (n : Nd) (AK AV AD : Option Addr) (ck cv cd : Nat) (key : ByteArray) (w : World), In w n AK AV AD → Fit key → Calls Try.prog 13 #[.agg #[.bool n.leaf, .slice AK n.keys.length ck, .slice AV n.vals.length cv, .slice AD n.kids.length cd, .string n.high, .bool n.bnd, .int .i64 n.nx.slot, .int .u64 n.nx.gen], .string key] w fun e w' =>
  ∃ m BK dk BV dv BD dd old had, e = .returned (.tuple #[.agg #[.bool m.leaf, .slice BK m.keys.length dk, .slice BV m.vals.length dv, .slice BD m.kids.length dd, .string m.high, .bool m.bnd, .int .i64 m.nx.slot, .int .u64 m.nx.gen], .string old, .bool had]) ∧ DelR n key m old had ∧ Got w.heap.size w' m BK BV BD ∧ Turn No w w'
def AddC : Prop := ∀ (n : Nd) (AK AV AD : Option Addr) (ck cv cd : Nat) (sep : ByteArray) (kid : Hn) (w : World), In w n AK AV AD → Fit sep → Calls Try.prog 16 #[.agg #[.bool n.leaf, .slice AK n.keys.length ck, .slice AV n.vals.length cv, .slice AD n.kids.length cd, .string n.high, .bool n.bnd, .int .i64 n.nx.slot, .int .u64 n.nx.gen], .string sep, .agg #[.int .i64 kid.slot, .int .u64 kid.gen]] w fun e w' =>
  ∃ m BK dk BV dv BD dd, e = .returned (.agg #[.bool m.leaf, .slice BK m.keys.length dk, .slice BV m.vals.length dv, .slice BD m.kids.length dd, .string m.high, .bool m.bnd, .int .i64 m.nx.slot, .int .u64 m.nx.gen]) ∧ AddR n sep kid m ∧ Got w.heap.size w' m BK BV BD ∧ Turn No w w'
/-- The chapter's leaf. -/
def ndL : Nd := ⟨true, [⟨#[98]⟩, ⟨#[100]⟩], [⟨#[49]⟩, ⟨#[50]⟩], [], ⟨#[]⟩, false, ⟨0, 0⟩⟩
def ndL2 : Nd := ⟨true, [⟨#[98]⟩, ⟨#[99]⟩, ⟨#[100]⟩], [⟨#[49]⟩, ⟨#[57]⟩, ⟨#[50]⟩], [], ⟨#[]⟩, false, ⟨0, 0⟩⟩
theorem rk_L : Rk ndL.keys := by unfold Rk ndL; decide
theorem rk_L2 : Rk ndL2.keys := by unfold Rk ndL2; decide
end Go.Proofs.Ytengbkopihiiaaa
namespace Go.Proofs.Ytengbkopihiiaaa
theorem putL_L : putL (zipP ndL.keys ndL.vals) ⟨#[99]⟩ ⟨#[57]⟩ = [⟨⟨#[98]⟩, ⟨#[49]⟩⟩, ⟨⟨#[99]⟩, ⟨#[57]⟩⟩, ⟨⟨#[100]⟩, ⟨#[50]⟩⟩] := by rfl
theorem getL_L : getL (zipP ndL.keys ndL.vals) ⟨#[99]⟩ = none := by decide
theorem plc_L2 : plc ndL2.keys ⟨#[99]⟩ = 1 ∧ inK ndL2.keys ⟨#[99]⟩ = true := by decide
end Go.Proofs.Ytengbkopihiiaaa
