// Package calls holds the layers' calls to the signatures that the chapters list: where one is gone or another one, these tests don't build.
package calls

import (
	"isobar/api"
	"isobar/blend"
	"isobar/cache"
	"isobar/choose"
	"isobar/config"
	"isobar/crc"
	"isobar/decimal"
	"isobar/disk"
	"isobar/fixed"
	"isobar/floats"
	"isobar/frame"
	"isobar/glob"
	"isobar/ladder"
	"isobar/line"
	"isobar/needle"
	"isobar/render"
	"isobar/retention"
	"isobar/ring"
	"isobar/rules"
	"isobar/script"
	"isobar/segment"
	"isobar/series"
	"isobar/server"
	"isobar/shape"
	"isobar/shelf"
	"isobar/stream"
	"isobar/target"
	"isobar/tokens"
	"isobar/trail"
	"isobar/trie"
	"isobar/wide"
)

// Layer 1: wide.
var (
	_ func(x, y uint64) api.Wide                                     = wide.Mul
	_ func(a, b api.Wide) (api.Wide, bool)                           = wide.Add
	_ func(a, b api.Wide) bool                                       = wide.Less
	_ func(a api.Wide, d uint64) (q api.Wide, r uint64, e api.Errno) = wide.Div
	_ func(a api.Wide, d uint64) (uint64, api.Errno)                 = wide.Round
	_ func(a api.Wide) uint64                                        = wide.Root
	_ func(a api.Wide, n int) (api.Wide, bool)                       = wide.Shift
)

// Layer 2: fixed.
var (
	_ func(n api.Num) bool                = fixed.Right
	_ func(v int64) api.Num               = fixed.Of
	_ func(n int) api.Num                 = fixed.Int
	_ func(a, b api.Num) api.Num          = fixed.Add
	_ func(a, b api.Num) api.Num          = fixed.Sub
	_ func(a api.Num) api.Num             = fixed.Neg
	_ func(a api.Num) api.Num             = fixed.Abs
	_ func(a, b api.Num) api.Num          = fixed.Mul
	_ func(a, b api.Num) api.Num          = fixed.Div
	_ func(a api.Num) api.Num             = fixed.Root
	_ func(a api.Num, digits int) api.Num = fixed.Round
	_ func(a, b api.Num) int              = fixed.Cmp
	_ func(a, b api.Num) api.Num          = fixed.Less
	_ func(a, b api.Num) api.Num          = fixed.More
)

// Layer 3: decimal.
var (
	_ func(s string) (api.Num, api.Errno) = decimal.Parse
	_ func(n api.Num) string              = decimal.Print
	_ func(s string) (int, api.Errno)     = decimal.Whole
	_ func(l []api.Num) string            = decimal.Join
)

// Layer 4: floats.
var (
	_ func(f float64) int                  = floats.Kind
	_ func(f float64) (api.Num, api.Errno) = floats.From
	_ func(n api.Num) float64              = floats.To
	_ func(a, b float64) int               = floats.Cmp
	_ func(l []float64) []float64          = floats.Sorted
	_ func(l []float64) []uint64           = floats.Bits
)

// Layer 5: crc.
var (
	_ func(b []byte) uint32              = crc.Sum
	_ func(sum uint32, b []byte) uint32  = crc.Update
	_ func(b []byte) []byte              = crc.Put
	_ func(b []byte) ([]byte, api.Errno) = crc.Check
)

// Layer 6: disk.
var (
	_ func(quota int) (api.Disk, api.Errno)                               = disk.New
	_ func(d api.Disk) bool                                               = disk.Right
	_ func(d api.Disk, name string) (api.Disk, api.Errno)                 = disk.Create
	_ func(d api.Disk, name string, b []byte) (api.Disk, api.Errno)       = disk.Append
	_ func(d api.Disk, name string) (api.Disk, api.Errno)                 = disk.Sync
	_ func(d api.Disk) (api.Disk, api.Errno)                              = disk.SyncDir
	_ func(d api.Disk, name, to string) (api.Disk, api.Errno)             = disk.Rename
	_ func(d api.Disk, name string) (api.Disk, api.Errno)                 = disk.Remove
	_ func(d api.Disk, name string) ([]byte, api.Errno)                   = disk.Read
	_ func(d api.Disk) ([]string, api.Errno)                              = disk.List
	_ func(d api.Disk) int                                                = disk.Used
	_ func(d api.Disk, moves int, keeps []api.Keep) (api.Disk, api.Errno) = disk.Crash
)

// Layer 7: frame.
var (
	_ func(p []byte) ([]byte, api.Errno)               = frame.Put
	_ func(b []byte) (p []byte, size int, e api.Errno) = frame.Take
	_ func(b []byte) (list [][]byte, size int)         = frame.Cut
	_ func(list [][]byte) ([]byte, api.Errno)          = frame.Join
)

// Layer 8: segment.
var (
	_ func(r api.Record) bool                                                    = segment.Right
	_ func(r api.Record) ([]byte, api.Errno)                                     = segment.Put
	_ func(p []byte) (api.Record, api.Errno)                                     = segment.Take
	_ func(head api.Record, list []api.Record) ([]byte, api.Errno)               = segment.Write
	_ func(b []byte) (head api.Record, list []api.Record, size int, e api.Errno) = segment.Scan
	_ func(r api.Record) ([]byte, api.Errno)                                     = segment.Frame
)

// Layer 9: needle.
var (
	_ func(pattern string) (api.Needle, api.Errno) = needle.Compile
	_ func(n api.Needle, text string) bool         = needle.Found
	_ func(pattern, text string) (bool, api.Errno) = needle.Match
	_ func(i api.Item, b byte) bool                = needle.Fits
)

// Layer 10: retention.
var (
	_ func(l []api.Rung) bool                = retention.Together
	_ func(s string) ([]api.Rung, api.Errno) = retention.Parse
	_ func(l []api.Rung) (string, api.Errno) = retention.Print
	_ func(s string) (int, api.Errno)        = retention.Span
	_ func(r api.Rung) int                   = retention.Reach
)

// Layer 11: config.
var (
	_ func(text string) []string                     = config.Lines
	_ func(text string) ([]api.Section, api.Errno)   = config.Parse
	_ func(l []api.Section) bool                     = config.Right
	_ func(l []api.Section) (string, api.Errno)      = config.Print
	_ func(s api.Section, key string) (string, bool) = config.Get
)

// Layer 12: rules.
var (
	_ func(text string) ([]api.Store, api.Errno)             = rules.Stores
	_ func(text string) ([]api.Fold, api.Errno)              = rules.Folds
	_ func(r api.Rules) bool                                 = rules.Right
	_ func(r api.Rules, path string) (api.Schema, api.Errno) = rules.Find
	_ func(name string) (int, bool)                          = rules.Method
	_ func(method int) string                                = rules.Name
)

// Layer 13: ring.
var (
	_ func(step, count int) (api.Ring, api.Errno)              = ring.New
	_ func(r api.Ring) bool                                    = ring.Right
	_ func(r api.Ring, t int) (int, api.Errno)                 = ring.Align
	_ func(r api.Ring, t int, v int64) (api.Ring, api.Errno)   = ring.Set
	_ func(r api.Ring, t int) api.Num                          = ring.Get
	_ func(r api.Ring, from, until int) ([]api.Num, api.Errno) = ring.Span
	_ func(r api.Ring) []api.Slot                              = ring.Live
)

// Layer 14: ladder.
var (
	_ func(s api.Schema) (api.Ladder, api.Errno)                       = ladder.New
	_ func(l api.Ladder) bool                                          = ladder.Right
	_ func(l api.Ladder, p api.Point, now int) (api.Ladder, api.Errno) = ladder.Accept
	_ func(l api.Ladder, from, until, now int) (api.Series, api.Errno) = ladder.Fetch
	_ func(l api.Ladder, from, now int) int                            = ladder.Pick
	_ func(l api.Ladder) []api.Record                                  = ladder.Slots
	_ func(s api.Schema, list []api.Record) (api.Ladder, api.Errno)    = ladder.Build
	_ func(method int, parts []int64) api.Num                          = ladder.Blend
)

// Layer 15: glob.
var (
	_ func(c byte) bool                            = glob.Byte
	_ func(s string) bool                          = glob.Name
	_ func(pattern string) api.Errno               = glob.Check
	_ func(pattern string) ([]string, api.Errno)   = glob.Expand
	_ func(pattern, name string) (bool, api.Errno) = glob.Match
	_ func(pattern string) bool                    = glob.Plain
)

// Layer 16: trail.
var (
	_ func(path string) bool                       = trail.Right
	_ func(path string) ([]string, api.Errno)      = trail.Split
	_ func(pattern string) ([]string, api.Errno)   = trail.Nodes
	_ func(pattern, path string) (bool, api.Errno) = trail.Match
	_ func(pattern string) bool                    = trail.Plain
	_ func(path string, n int) (string, api.Errno) = trail.Head
)

// Layer 17: trie.
var (
	_ func() *trie.Trie                                         = trie.New
	_ func(paths []string) (*trie.Trie, api.Errno)              = trie.Build
	_ func(t *trie.Trie, path string) api.Errno                 = (*trie.Trie).Insert
	_ func(t *trie.Trie, path string) api.Errno                 = (*trie.Trie).Delete
	_ func(t *trie.Trie, path string) bool                      = (*trie.Trie).Has
	_ func(t *trie.Trie) int                                    = (*trie.Trie).Len
	_ func(t *trie.Trie) []string                               = (*trie.Trie).Paths
	_ func(t *trie.Trie, pattern string) ([]string, api.Errno)  = (*trie.Trie).Find
	_ func(t *trie.Trie, pattern string) ([]api.Hit, api.Errno) = (*trie.Trie).Nodes
)

// Layer 18: line.
var (
	_ func(line string) []string                = line.Words
	_ func(line string) (api.Sample, api.Errno) = line.Parse
	_ func(s api.Sample) (string, api.Errno)    = line.Print
	_ func(s api.Sample, now int) api.Sample    = line.Stamp
)

// Layer 19: stream.
var (
	_ func(c api.Conn) bool                                             = stream.Right
	_ func(c api.Conn, chunk []byte) (api.Conn, []api.Piece, api.Errno) = stream.Feed
	_ func(c api.Conn) int                                              = stream.Rest
	_ func(chunks [][]byte) []api.Piece                                 = stream.All
)

// Layer 20: cache.
var (
	_ func(most int) (api.Cache, api.Errno)                                 = cache.New
	_ func(c api.Cache) bool                                                = cache.Right
	_ func(c api.Cache, s api.Sample, now int) (api.Cache, bool, api.Errno) = cache.Add
	_ func(c api.Cache, policy, n int) (string, api.Errno)                  = cache.Choose
	_ func(c api.Cache, path string) (api.Cache, []api.Arrival, api.Errno)  = cache.Take
	_ func(c api.Cache, path string) []api.Arrival                          = cache.Of
	_ func(c api.Cache) int                                                 = cache.Count
)

// Layer 21: shelf.
var (
	_ func(quota int) (api.Shelf, api.Errno)                                                      = shelf.New
	_ func(d api.Disk, left int) (api.Shelf, api.Errno)                                           = shelf.Open
	_ func(s api.Shelf, path string, how api.Schema, points []api.Arrival) (api.Shelf, api.Errno) = shelf.Append
	_ func(s api.Shelf, path string) (api.Shelf, api.Errno)                                       = shelf.Sync
	_ func(s api.Shelf, path string) (api.Shelf, api.Errno)                                       = shelf.Compact
	_ func(s api.Shelf, moves int, keeps []api.Keep) (api.Disk, api.Errno)                        = shelf.Fall
	_ func(s api.Shelf, left int) api.Shelf                                                       = shelf.Arm
	_ func(s api.Shelf, path string) (api.Metric, api.Errno)                                      = shelf.Find
)

// Layer 22: tokens.
var (
	_ func(target string) ([]api.Token, api.Errno) = tokens.Split
	_ func(l []api.Token) (string, api.Errno)      = tokens.Join
	_ func(t api.Token) bool                       = tokens.Right
)

// Layer 23: target.
var (
	_ func(target string) ([]api.Node, api.Errno) = target.Parse
	_ func(l []api.Node) (string, api.Errno)      = target.Print
	_ func(l []api.Node) bool                     = target.Right
	_ func(call string) (string, bool)            = target.Kinds
	_ func() []string                             = target.Calls
)

// Layer 24: series.
var (
	_ func(s api.Series) bool                                   = series.Right
	_ func(s api.Series) int                                    = series.End
	_ func(s api.Series, t int) api.Num                         = series.At
	_ func(s api.Series) []api.Num                              = series.Known
	_ func(way int, l []api.Num) api.Num                        = series.Reckon
	_ func(s api.Series, step, way int) (api.Series, api.Errno) = series.Coarser
	_ func(l []api.Series) ([]api.Series, api.Errno)            = series.Align
	_ func(s api.Series) (string, api.Errno)                    = series.Print
	_ func(s api.Series) (string, api.Errno)                    = series.Row
)

// Layer 25: shape.
var (
	_ func(call string, s api.Series, args []api.Num, text string) (api.Series, api.Errno) = shape.Apply
	_ func(call string) (least, most int, ok bool)                                         = shape.Takes
	_ func(call, name string, args []api.Num, text string) string                          = shape.Label
)

// Layer 26: blend.
var (
	_ func(call string, l []api.Series, args []api.Num, text string) ([]api.Series, api.Errno) = blend.Apply
	_ func(call string) (numbers int, text, ok bool)                                           = blend.Takes
	_ func(l []api.Num) api.Num                                                                = blend.Middle
	_ func(l []api.Num, n api.Num) api.Num                                                     = blend.Rank
)

// Layer 27: choose.
var (
	_ func(call string, l []api.Series, args []api.Num, text string) ([]api.Series, api.Errno) = choose.Apply
	_ func(call string) (least, most int, text, ok bool)                                       = choose.Takes
	_ func(call string, s api.Series) api.Num                                                  = choose.Measure
)

// Layer 28: render.
var (
	_ func(b api.Board) bool                                     = render.Right
	_ func(b api.Board, r api.Request) ([]api.Series, api.Errno) = render.Eval
	_ func(b api.Board, r api.Request) (string, api.Errno)       = render.Reply
	_ func(n api.Num) (int, bool)                                = render.Whole
)

// Layer 29: server.
var (
	_ func(stores, folds string, quota, most int) (api.Server, api.Errno) = server.New
	_ func(s api.Server, e api.Event) (api.Server, string, api.Errno)     = server.Do
	_ func(s api.Server, l []api.Event) (api.Server, []string)            = server.Run
	_ func(s api.Server) api.Board                                        = server.Board
	_ func(e api.Errno) string                                            = server.Text
)

// Layer 30: script.
var (
	_ func(b []byte) string                                              = script.Text
	_ func(s string) ([]byte, api.Errno)                                 = script.Bytes
	_ func(e api.Event) (string, api.Errno)                              = script.Print
	_ func(line string) (api.Event, api.Errno)                           = script.Parse
	_ func(stores, folds string, sizes [2]int, lines ...string) []string = script.Run
)
