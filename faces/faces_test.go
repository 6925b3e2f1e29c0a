// Package faces holds the packages to the calls that the document lists: it
// does not build if one is missing, or has another signature.
package faces

import (
	"testing"

	"scrimshaw/api"
	"scrimshaw/arena"
	"scrimshaw/bits"
	"scrimshaw/block"
	"scrimshaw/cost"
	"scrimshaw/crc"
	"scrimshaw/desk"
	"scrimshaw/fib"
	"scrimshaw/find"
	"scrimshaw/live"
	"scrimshaw/model"
	"scrimshaw/num"
	"scrimshaw/perm"
	"scrimshaw/run"
	"scrimshaw/script"
	"scrimshaw/snap"
	"scrimshaw/sorted"
	"scrimshaw/store"
	"scrimshaw/sym"
	"scrimshaw/take"
	"scrimshaw/tally"
	"scrimshaw/tree"
	"scrimshaw/walk"
	"scrimshaw/wave"
	"scrimshaw/where"
)

// Chapters 1 to 4.
var (
	_ func(...uint64) int                    = bits.Count
	_ func(uint64, int) int                  = bits.Rank
	_ func(uint64, int) int                  = bits.Select
	_ func(uint64, int, bool) (uint64, bool) = bits.Put
	_ func(uint64, int, bool) (uint64, bool) = bits.Cut
	_ func(...bool) (*block.Block, int)      = block.New
	_ func(*block.Block) int                 = (*block.Block).Len
	_ func(*block.Block) int                 = (*block.Block).Ones
	_ func(*block.Block, int) (bool, int)    = (*block.Block).Get
	_ func(*block.Block, int) int            = (*block.Block).Rank
	_ func(*block.Block, int, bool) int      = (*block.Block).Select
	_ func(*block.Block, int, bool) int      = (*block.Block).Insert
	_ func(*block.Block, int) (bool, int)    = (*block.Block).Delete
	_ func(*block.Block) *block.Block        = (*block.Block).Split
	_ func(*block.Block, *block.Block) int   = (*block.Block).Join
	_ func(*block.Block) []bool              = (*block.Block).All
	_ func(int) *arena.Arena                 = arena.New
	_ func(*arena.Arena) (int, int)          = (*arena.Arena).Take
	_ func(*arena.Arena, ...int) int         = (*arena.Arena).Free
	_ func(*arena.Arena, int) bool           = (*arena.Arena).Is
	_ func(*arena.Arena) int                 = (*arena.Arena).Live
	_ func(*arena.Arena) int                 = (*arena.Arena).Made
	_ func(int) int                          = fib.Least
	_ func(int) int                          = fib.Most
	_ func(...api.Shape) bool                = fib.May
)

// Chapters 5 to 8.
var (
	_ func(...bool) *tree.Tree          = tree.New
	_ func(*tree.Tree) int              = (*tree.Tree).Len
	_ func(*tree.Tree) int              = (*tree.Tree).Ones
	_ func(*tree.Tree, int) (bool, int) = (*tree.Tree).Get
	_ func(*tree.Tree, int, bool) int   = (*tree.Tree).Rank
	_ func(*tree.Tree, int, bool) int   = (*tree.Tree).Select
	_ func(*tree.Tree, int, bool) int   = (*tree.Tree).Insert
	_ func(*tree.Tree, int) (bool, int) = (*tree.Tree).Delete
	_ func(*tree.Tree) []bool           = (*tree.Tree).All
	_ func(*tree.Tree) api.Shape        = (*tree.Tree).Shape
	_ func(*tree.Tree) int              = (*tree.Tree).Live
	_ func(*tree.Tree) int              = (*tree.Tree).Made
	_ func(*tree.Tree) int              = (*tree.Tree).Visits
	_ func(byte) int                    = sym.Of
	_ func(int) (byte, bool)            = sym.Byte
	_ func(...[]byte) []int             = sym.All
	_ func(int, int) bool               = sym.Bit
	_ func(int, int) int                = sym.Path
	_ func(...int) (*wave.Wave, int)    = wave.New
	_ func(*wave.Wave) int              = (*wave.Wave).Len
	_ func(*wave.Wave, int) (int, int)  = (*wave.Wave).Get
	_ func(*wave.Wave, int, int) int    = (*wave.Wave).Rank
	_ func(*wave.Wave, int, int) int    = (*wave.Wave).Select
	_ func(*wave.Wave, int, int) int    = (*wave.Wave).Insert
	_ func(*wave.Wave, int) (int, int)  = (*wave.Wave).Delete
	_ func(*wave.Wave) []int            = (*wave.Wave).All
	_ func(*wave.Wave, int, int) []bool = (*wave.Wave).Level
	_ func(*wave.Wave) []api.Shape      = (*wave.Wave).Shapes
	_ func(*wave.Wave) int              = (*wave.Wave).Visits
	_ func(...int) (*tally.Tally, int)  = tally.New
	_ func(*tally.Tally, int, int) int  = (*tally.Tally).Add
	_ func(*tally.Tally, int) int       = (*tally.Tally).Of
	_ func(*tally.Tally, int) int       = (*tally.Tally).Below
	_ func(*tally.Tally, int) int       = (*tally.Tally).Which
	_ func(*tally.Tally) int            = (*tally.Tally).Len
)

// Chapters 9 to 12.
var (
	_ func([]byte) []int                         = sorted.Rows
	_ func([]byte) []int                         = sorted.Last
	_ func([]int) ([]byte, bool)                 = sorted.Back
	_ func([]int, []int) bool                    = sorted.Same
	_ func([]byte) *walk.Walk                    = walk.New
	_ func(...int) (*walk.Walk, int)             = walk.Of
	_ func(*walk.Walk, int) int                  = (*walk.Walk).Back
	_ func(*walk.Walk, int) int                  = (*walk.Walk).On
	_ func(*walk.Walk, int) int                  = (*walk.Walk).First
	_ func(*walk.Walk, int, int, int) (int, int) = (*walk.Walk).Narrow
	_ func(*walk.Walk) []byte                    = (*walk.Walk).Text
	_ func(*walk.Walk) int                       = (*walk.Walk).Len
	_ func(*walk.Walk) []int                     = (*walk.Walk).All
	_ func(int, ...api.Pair) (*perm.Perm, int)   = perm.New
	_ func(*perm.Perm, int, int) int             = (*perm.Perm).Add
	_ func(*perm.Perm, int) int                  = (*perm.Perm).Drop
	_ func(*perm.Perm, int) int                  = (*perm.Perm).Pos
	_ func(*perm.Perm, int) int                  = (*perm.Perm).Row
	_ func(*perm.Perm, int) int                  = (*perm.Perm).RowIn
	_ func(*perm.Perm, int) int                  = (*perm.Perm).RowOut
	_ func(*perm.Perm, int, int) int             = (*perm.Perm).RowMove
	_ func(*perm.Perm, int) int                  = (*perm.Perm).PosIn
	_ func(*perm.Perm, int) int                  = (*perm.Perm).PosOut
	_ func(*perm.Perm) []api.Pair                = (*perm.Perm).All
	_ func(*perm.Perm) (int, int)                = (*perm.Perm).Size
	_ func(*perm.Perm, int) int                  = (*perm.Perm).Next
	_ func(int, ...[]byte) (*live.Live, int)     = live.New
	_ func(*live.Live, int, byte) int            = (*live.Live).Insert
	_ func(*live.Live, int) int                  = (*live.Live).Delete
	_ func(*live.Live, int, byte) int            = (*live.Live).Set
	_ func(*live.Live) int                       = (*live.Live).Len
	_ func(*live.Live) []int                     = (*live.Live).Last
	_ func(*live.Live) []api.Pair                = (*live.Live).Pairs
	_ func(*live.Live, int) int                  = (*live.Live).Row
	_ func(*live.Live, int) int                  = (*live.Live).Pos
	_ func(*live.Live) int                       = (*live.Live).Rate
	_ func(*live.Live) int                       = (*live.Live).Moves
	_ func(*live.Live) []api.Shape               = (*live.Live).Shapes
)

// Chapters 13 to 19.
var (
	_ func(*live.Live, ...[]byte) int           = find.Count
	_ func(*live.Live, ...[]byte) (int, int)    = find.Rows
	_ func(*live.Live, ...[]byte) []int         = where.All
	_ func(*live.Live, ...[]byte) int           = where.First
	_ func(*live.Live, int, int) ([]byte, int)  = take.Piece
	_ func(*live.Live) []byte                   = take.Text
	_ func(...uint64) []byte                    = num.Put
	_ func([]byte, int) (uint64, int, int)      = num.Get
	_ func(uint32) []byte                       = num.Fixed
	_ func([]byte, int) (uint32, int)           = num.Of
	_ func(...[]byte) uint32                    = crc.Of
	_ func(uint32, []byte) uint32               = crc.More
	_ func(uint32, bool) uint32                 = crc.Step
	_                                           = run.Run{Sym: 1, N: 1}
	_ func(...int) []run.Run                    = run.Of
	_ func([]run.Run) []int                     = run.All
	_ func(...int) ([]byte, int)                = run.Put
	_ func([]byte, int) ([]int, int)            = run.Get
	_                                           = snap.Head{Most: 1, Rate: 1, Len: 1}
	_ func(*live.Live, int) ([]byte, int)       = snap.Save
	_ func([]byte) (*live.Live, snap.Head, int) = snap.Load
	_ func([]byte) (snap.Head, int)             = snap.Look
)

// Chapters 20 to 24.
var (
	_ func(int) (*model.Model, int)             = model.New
	_ func(*model.Model, api.Step) api.Res      = (*model.Model).Do
	_ func(*model.Model) []byte                 = (*model.Model).Text
	_ func(api.Res, api.Res) bool               = model.Same
	_ func(int, int) (*store.Store, int)        = store.New
	_ func(*store.Store, api.Step) api.Res      = (*store.Store).Do
	_ func(*store.Store) ([]byte, int)          = (*store.Store).Save
	_ func(*store.Store, []byte) int            = (*store.Store).Load
	_ func(*store.Store) []int                  = (*store.Store).Last
	_ func(*store.Store) []api.Pair             = (*store.Store).Pairs
	_ func(*store.Store) []api.Shape            = (*store.Store).Shapes
	_ func(*store.Store) int                    = (*store.Store).Most
	_ func(*store.Store) int                    = (*store.Store).Rate
	_ func([]byte) []api.Step                   = script.All
	_ func(*store.Store, ...api.Step) []api.Res = script.Run
	_ func(*model.Model, ...api.Step) []api.Res = script.Plain
	_ func(int) int                             = cost.Nodes
	_ func(int) int                             = cost.Visits
	_ func(int) int                             = cost.Moves
	_ func(...api.Shape) api.Shape              = cost.Sum
	_ func(int, int, string) string             = desk.Run
)

// TestFaces has nothing to do but to be built.
func TestFaces(t *testing.T) {}
