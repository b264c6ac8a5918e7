// Package words holds package api against the document's section 'Words'; it
// stands apart because nothing is laid beside api's own file.
package words

import (
	"testing"

	"souterrain/api"
)

type word struct {
	name      string
	got, want int
}

func check(t *testing.T, list []word) {
	t.Helper()
	for _, w := range list {
		if w.got != w.want {
			t.Errorf("%s is %d; want %d", w.name, w.got, w.want)
		}
	}
}

func TestErrors(t *testing.T) {
	names := []string{"OK", "ErrArg", "ErrLarge", "ErrSyntax", "ErrShort", "ErrForm", "ErrSum", "ErrNone",
		"ErrTwice", "ErrFull", "ErrState", "ErrOld", "ErrZero", "ErrRoute", "ErrAgain", "ErrLimit"}
	errnos := []api.Errno{api.OK, api.ErrArg, api.ErrLarge, api.ErrSyntax, api.ErrShort, api.ErrForm, api.ErrSum, api.ErrNone,
		api.ErrTwice, api.ErrFull, api.ErrState, api.ErrOld, api.ErrZero, api.ErrRoute, api.ErrAgain, api.ErrLimit}
	for i, e := range errnos {
		if int(e) != i {
			t.Errorf("%s is %d; want %d", names[i], e, i)
		}
	}
}

func TestKinds(t *testing.T) {
	check(t, []word{
		{"Blake", api.Blake, 1}, {"Sha", api.Sha, 2},
		{"First", api.First, 1}, {"Second", api.Second, 2}, {"Reply", api.Reply, 3}, {"Data", api.Data, 4},
		{"DoNothing", api.DoNothing, 0}, {"DoFirst", api.DoFirst, 1}, {"DoAlive", api.DoAlive, 2}, {"DoGiveUp", api.DoGiveUp, 3},
		{"Sent", api.Sent, 1}, {"Heard", api.Heard, 2}, {"Wanted", api.Wanted, 3},
		{"Began", api.Began, 4}, {"Made", api.Made, 5}, {"Silenced", api.Silenced, 6},
		{"ActSend", api.ActSend, 1}, {"ActTick", api.ActTick, 2}, {"ActAir", api.ActAir, 3}, {"ActDrop", api.ActDrop, 4},
		{"ActTwice", api.ActTwice, 5}, {"ActTurn", api.ActTurn, 6}, {"ActBusy", api.ActBusy, 7},
	})
}

func TestLimits(t *testing.T) {
	check(t, []word{
		{"MaxText", api.MaxText, 2000}, {"MaxTime", api.MaxTime, 1099511627776}, {"MaxNano", api.MaxNano, 999999999},
		{"Window", api.Window, 64}, {"MaxPaths", api.MaxPaths, 64}, {"MaxPeers", api.MaxPeers, 8},
		{"MaxHolds", api.MaxHolds, 4}, {"MaxPacket", api.MaxPacket, 1000}, {"Burst", api.Burst, 5},
		{"MaxSource", api.MaxSource, 16}, {"Rekey", api.Rekey, 120}, {"Reject", api.Reject, 180},
		{"Retry", api.Retry, 5}, {"MaxTries", api.MaxTries, 6}, {"Alive", api.Alive, 10},
		{"MaxCount", api.MaxCount, 1000}, {"Cookie", api.Cookie, 120}, {"MaxAir", api.MaxAir, 60},
		{"MaxScript", api.MaxScript, 300}, {"MaxLines", api.MaxLines, 60}, {"MaxLine", api.MaxLine, 300},
	})
}
