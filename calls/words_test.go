package calls

import (
	"testing"

	"isobar/api"
)

// The errors' numbers are told in answers (error 18), so they stand as the document lists them.
func TestErrors(t *testing.T) {
	list := []api.Errno{
		api.OK, api.ErrArg, api.ErrNumber, api.ErrRange, api.ErrNoFile, api.ErrExist, api.ErrFull, api.ErrForm,
		api.ErrSum, api.ErrShort, api.ErrPattern, api.ErrMany, api.ErrLong, api.ErrPath, api.ErrOld, api.ErrNone,
		api.ErrToken, api.ErrParse, api.ErrType, api.ErrDeep, api.ErrSize, api.ErrLine, api.ErrDown,
	}
	for i, e := range list {
		if int(e) != i {
			t.Errorf("the error at %d is %d", i, e)
		}
		var err error = e
		if err.Error() == "" {
			t.Errorf("error %d has no word", i)
		}
	}
}

func TestLimits(t *testing.T) {
	for _, c := range []struct {
		name      string
		got, want int
	}{
		{"One", api.One, 1000000},
		{"MaxText", api.MaxText, 64},
		{"MaxFiles", api.MaxFiles, 256},
		{"MaxFileName", api.MaxFileName, 96},
		{"MaxRecord", api.MaxRecord, 512},
		{"MaxNeedle", api.MaxNeedle, 64},
		{"MaxRungs", api.MaxRungs, 4},
		{"MaxSlots", api.MaxSlots, 400},
		{"MaxStep", api.MaxStep, 86400},
		{"MaxRules", api.MaxRules, 16},
		{"MaxConfig", api.MaxConfig, 4096},
		{"MaxNode", api.MaxNode, 32},
		{"MaxDepth", api.MaxDepth, 8},
		{"MaxGlob", api.MaxGlob, 128},
		{"MaxExpand", api.MaxExpand, 64},
		{"MaxNest", api.MaxNest, 4},
		{"MaxMetrics", api.MaxMetrics, 64},
		{"MaxTurn", api.MaxTurn, 16},
		{"MaxLine", api.MaxLine, 200},
		{"MaxConns", api.MaxConns, 16},
		{"MaxCache", api.MaxCache, 500},
		{"MaxTime", api.MaxTime, 1 << 40},
		{"MaxTarget", api.MaxTarget, 1024},
		{"MaxTokens", api.MaxTokens, 256},
		{"MaxLevels", api.MaxLevels, 12},
		{"MaxArgs", api.MaxArgs, 16},
		{"MaxSeries", api.MaxSeries, 128},
		{"MaxLabel", api.MaxLabel, 400},
		{"MaxPoints", api.MaxPoints, 2000},
		{"MaxReply", api.MaxReply, 65536},
		{"MaxEvents", api.MaxEvents, 400},
	} {
		if c.got != c.want {
			t.Errorf("%s is %d, want %d", c.name, c.got, c.want)
		}
	}
}
