import Derived.Test.YtfnfnmonnfcpeabPure3
namespace Go.Proofs.Ytfnfnmonnfcpeab
open Go.RowKit
set_option maxRecDepth 20000
namespace Sh
def across (n1 row : Nat) : Nat → Int
  | 0 => 0
  | k + 1 => bits .or .u64 (across n1 row k) (IntKind.u64.wrap (2 ^ (k * n1 + row)))
def cell (kind : Int) (n1 K row col : Nat) : Int :=
  if row = n1 then 0 else if col < K then IntKind.u64.wrap (2 ^ (col * n1 + row)) else if kind = 2 ∧ col = n1 then across n1 row K else 0
def rowAt (sl : Int) (n1 d c : Nat) : Nat := (((d : Int) - sl * c + (n1 + 1)) % (n1 + 1)).toNat
def diag (kind sl : Int) (n1 K d : Nat) : Nat → Int
  | 0 => 0
  | c + 1 => bits .xor .u64 (diag kind sl n1 K d c) (cell kind n1 K (rowAt sl n1 d c) c)
def diagonal (kind sl : Int) (n1 K d : Nat) : Int := diag kind sl n1 K d (n1 + 1)
def everyw (kind sl : Int) (n1 K : Nat) : Int := if kind = 2 then 0 else diagonal kind sl n1 K n1
def diags (kind sl : Int) (n1 K r : Nat) : List Int := (List.range r).map fun row => bits .xor .u64 (diagonal kind sl n1 K row) (everyw kind sl n1 K)
theorem diags_succ (kind sl : Int) (n1 K r : Nat) : diags kind sl n1 K (r + 1) = diags kind sl n1 K r ++ [bits .xor .u64 (diagonal kind sl n1 K r) (everyw kind sl n1 K)] := by simp [diags, List.range_succ]
theorem diags_len (kind sl : Int) (n1 K r : Nat) : (diags kind sl n1 K r).length = r := by simp [diags]
def acr (n1 K r : Nat) : List Int := (List.range r).map fun row => across n1 row K
theorem acr_succ (n1 K r : Nat) : acr n1 K (r + 1) = acr n1 K r ++ [across n1 r K] := by simp [acr, List.range_succ]
theorem acr_len (n1 K r : Nat) : (acr n1 K r).length = r := by simp [acr]
def tpar (kind : Int) (n1 K : Nat) : List Int := acr n1 K n1 ++ diags kind 1 n1 K n1 ++ (if kind = 3 then diags kind (-1) n1 K n1 else [])
end Sh
end Go.Proofs.Ytfnfnmonnfcpeab
