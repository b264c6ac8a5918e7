package bucket

import (
	"maps"
	"slices"
	"testing"

	"souterrain/api"
)

// The document's own numbers: package words holds api's against them.
const (
	most  = 1 << 40
	burst = 5
	room  = 16
	high  = 1<<32 - 1
)

// source is one of those that are there.
type source struct {
	from  uint32
	turns int
}

// said is a bucket in P33's own words: a plain list, in the order of its coming,
// and a time that goes by tick by tick.
type said struct {
	list []source
	time int
}

func (s *said) at(from uint32) int {
	return slices.IndexFunc(s.list, func(x source) bool { return x.from == from })
}

func (s *said) tick() {
	var there []source
	for _, x := range s.list {
		x.turns++
		if x.turns != burst {
			there = append(there, x)
		}
	}
	s.list = there
}

func (s *said) take(from uint32, now int) api.Errno {
	if now < s.time || now > most {
		return api.ErrArg
	}
	// Where nobody is there no tick changes anything, however many are left.
	for i := s.time; i < now && len(s.list) > 0; i++ {
		s.tick()
	}
	s.time = now
	i := s.at(from)
	switch {
	case i >= 0 && s.list[i].turns == 0:
		return api.ErrLimit
	case i >= 0:
		s.list[i].turns--
	case len(s.list) == room:
		return api.ErrFull
	default:
		s.list = append(s.list, source{from, burst - 1})
	}
	return api.OK
}

func (s *said) left(from uint32) int {
	if i := s.at(from); i >= 0 {
		return s.list[i].turns
	}
	return burst
}

// both is a Bucket, and what the chapter says of it.
type both struct {
	*Bucket
	said *said
}

func newBoth() both { return both{New(), &said{}} }

// call is what a Take is handed.
type call struct {
	from uint32
	now  int
}

// behind answers both behind these calls, which were all let.
func behind(t *testing.T, list ...call) both {
	t.Helper()
	b := newBoth()
	for _, c := range list {
		if e := b.said.take(c.from, c.now); e != api.OK {
			t.Fatal(c, e, "in", list)
		}
		wantTake(t, b.Bucket, c.from, c.now, api.OK)
	}
	return b
}

func (b both) wantTake(t *testing.T, from uint32, now int) {
	t.Helper()
	before, time := slices.Clone(b.said.list), b.said.time
	right := b.said.take(from, now)
	if got := b.Take(from, now); got != right {
		t.Errorf("Take(%d, %d) = %d; want %d, behind %d at %d", from, now, got, right, before, time)
	}
}

func (b both) wantLeft(t *testing.T, from uint32) {
	t.Helper()
	if got, right := b.Left(from), b.said.left(from); got != right {
		t.Errorf("Left(%d) = %d; want %d, behind %d at %d", from, got, right, b.said.list, b.said.time)
	}
}

// wantAll holds Left of each source that is there and of some that aren't, and that
// nothing is kept beside what the chapter says: a time, and turns of who is there.
func (b both) wantAll(t *testing.T) {
	t.Helper()
	for _, x := range b.said.list {
		b.wantLeft(t, x.from)
		b.wantLeft(t, x.from+1)
		b.wantLeft(t, x.from^1<<31)
	}
	for _, from := range anySources() {
		b.wantLeft(t, from)
	}
	if b.time != b.said.time || !maps.Equal(b.turns, b.said.turns()) {
		t.Errorf("it keeps %d at %d; want %d at %d", b.turns, b.time, b.said.turns(), b.said.time)
	}
}

func (s *said) turns() map[uint32]int {
	turns := map[uint32]int{}
	for _, x := range s.list {
		turns[x.from] = x.turns
	}
	return turns
}

// kept is all that a Bucket keeps, as it was at some time.
type kept struct {
	turns map[uint32]int
	time  int
}

func whatIsKept(b *Bucket) kept { return kept{maps.Clone(b.turns), b.time} }

// wantKept holds that a Bucket is as it was then.
func wantKept(t *testing.T, b *Bucket, then kept) {
	t.Helper()
	if b.time != then.time || !maps.Equal(b.turns, then.turns) {
		t.Errorf("%d at %d became %d at %d", then.turns, then.time, b.turns, b.time)
	}
}

func wantTake(t *testing.T, b *Bucket, from uint32, now int, right api.Errno) {
	t.Helper()
	if got := b.Take(from, now); got != right {
		t.Errorf("Take(%d, %d) = %d; want %d", from, now, got, right)
	}
}

func wantLeft(t *testing.T, b *Bucket, from uint32, right int) {
	t.Helper()
	if got := b.Left(from); got != right {
		t.Errorf("Left(%d) = %d; want %d", from, got, right)
	}
}
