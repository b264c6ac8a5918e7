package bucket

import (
	"math"
	"math/rand"
	"slices"
	"sync"
	"testing"

	"souterrain/api"
)

// anySources answers sources at the bounds, and some that part in one bit alone.
func anySources() []uint32 {
	return []uint32{0, 1, 2, 5, 16, 1<<16 - 1, 1 << 16, 10 << 24, 127<<24 + 1, 1<<31 - 1, 1 << 31, 1<<31 + 1, high - 1<<31, high - 1, high}
}

// rightTimes answers times that a bucket may have, the lowest first.
func rightTimes() []int {
	return []int{0, 1, 2, 4, 5, 6, 100, 1<<31 - 1, 1 << 31, 1<<32 - 1, 1 << 32, 1<<32 + 1, 1 << 39, most - 6, most - 5, most - 4, most - 1, most}
}

// wrongTimes answers times that no bucket has, some of which would be right by
// their lower bits alone.
func wrongTimes() []int {
	return []int{-1, -2, -5, -1 << 31, -1 << 32, 1 - 1<<32, -most, 1 - most, -most - 1, most + 1, most + 2, most + 5, most + 1<<32, 1 << 41, 1<<41 + 7,
		1 << 62, 1<<62 + 7, -1 << 62, math.MaxInt - 5, math.MaxInt - 1, math.MaxInt, math.MinInt, math.MinInt + 1, math.MinInt + 7}
}

// steps answers how many ticks may go by at once, the lowest number first.
func steps() []int {
	return []int{0, 1, 2, 3, 4, 5, 6, 7, 10, 100, 1<<31 - 1, 1 << 31, 1<<32 - 1, 1 << 32, 1<<32 + 1, 1 << 38}
}

// many answers so many sources, with 0, 1, 2^31 and 2^32-1 among them.
func many(count int) []uint32 {
	list := append([]uint32{0, 1, 1 << 31, high}, make([]uint32, count)...)[:count]
	for i := 4; i < count; i++ {
		list[i] = uint32(10<<24 + i)
	}
	return list
}

// times answers the calls by which from takes so many turns at the time now.
func times(from uint32, now, turns int) []call { return slices.Repeat([]call{{from, now}}, turns) }

// each answers the calls by which each of these takes so many turns at the time now.
func each(list []uint32, now, turns int) []call {
	var calls []call
	for _, from := range list {
		calls = append(calls, times(from, now, turns)...)
	}
	return calls
}

func mixed[T any](list []T, r *rand.Rand) []T {
	list = slices.Clone(list)
	r.Shuffle(len(list), func(i, j int) { list[i], list[j] = list[j], list[i] })
	return list
}

// wantTurns holds that from has so many turns to take at the time now, and no more.
func wantTurns(t *testing.T, b *Bucket, from uint32, now, turns int) {
	t.Helper()
	for i := range turns {
		wantTake(t, b, from, now, api.OK)
		wantLeft(t, b, from, turns-i-1)
	}
	wantTake(t, b, from, now, api.ErrLimit)
	wantTake(t, b, from, now, api.ErrLimit)
	wantLeft(t, b, from, 0)
}

// P33: what each call answers, written out.
func TestWrittenOut(t *testing.T) {
	b := New()
	for i, c := range []struct {
		from        uint32
		now         int
		right       api.Errno
		one, two, x int // what 1, 2 and 9 have left behind it
	}{
		{1, 10, api.OK, 4, 5, 5},
		{1, 10, api.OK, 3, 5, 5},
		{2, 10, api.OK, 3, 4, 5},
		{1, 10, api.OK, 2, 4, 5},
		{1, 10, api.OK, 1, 4, 5},
		{1, 10, api.OK, 0, 4, 5},
		{1, 10, api.ErrLimit, 0, 4, 5},
		{1, 10, api.ErrLimit, 0, 4, 5},
		{2, 10, api.OK, 0, 3, 5},
		{1, 9, api.ErrArg, 0, 3, 5},
		{1, 11, api.OK, 0, 4, 5},
		{1, 11, api.ErrLimit, 0, 4, 5},
		{9, 12, api.OK, 1, 5, 4},
		{2, 12, api.OK, 1, 4, 4},
		{2, 11, api.ErrArg, 1, 4, 4},
		{9, 14, api.OK, 3, 5, 4},
		{1, 14, api.OK, 2, 5, 4},
		{1, 14, api.OK, 1, 5, 4},
		{1, 14, api.OK, 0, 5, 4},
		{1, 14, api.ErrLimit, 0, 5, 4},
		{9, 18, api.OK, 4, 5, 4},
		{9, 19, api.OK, 5, 5, 4},
		{1, 19, api.OK, 4, 5, 4},
		{1, -1, api.ErrArg, 4, 5, 4},
		{1, 1<<40 + 1, api.ErrArg, 4, 5, 4},
		{2, 1 << 40, api.OK, 5, 4, 5},
		{2, 1 << 40, api.OK, 5, 3, 5},
		{2, 1<<40 - 1, api.ErrArg, 5, 3, 5},
		{1, 1 << 40, api.OK, 4, 3, 5},
	} {
		wantTake(t, b, c.from, c.now, c.right)
		wantLeft(t, b, 1, c.one)
		wantLeft(t, b, 2, c.two)
		wantLeft(t, b, 9, c.x)
		if t.Failed() {
			t.Fatal("line", i)
		}
	}
}

// P33: a source that was never there has Burst turns, all of which it may take at
// once, and not one more; from whatever source, at whatever time.
func TestBurst(t *testing.T) {
	for _, from := range anySources() {
		for _, now := range rightTimes() {
			b := New()
			wantLeft(t, b, from, burst)
			for i := range 9 {
				if i < burst {
					wantTake(t, b, from, now, api.OK)
				} else {
					wantTake(t, b, from, now, api.ErrLimit)
				}
				wantLeft(t, b, from, max(0, burst-1-i))
				wantLeft(t, b, from+1, burst)
			}
		}
	}
}

// P33: one turn more for each tick, up to Burst, ticks that come at once included.
func TestOneMoreATick(t *testing.T) {
	for taken := 1; taken <= burst; taken++ {
		for _, step := range steps() {
			for _, now := range []int{0, 1, 1000, 1 << 32} {
				b := behind(t, times(7, now, taken)...).Bucket
				wantLeft(t, b, 7, burst-taken)
				wantTurns(t, b, 7, now+step, min(burst, burst-taken+step))
			}
		}
	}
}

// P33: who takes one a tick always has one, and who takes as many as it may at
// each tick has Burst at first, and one then.
func TestTickByTick(t *testing.T) {
	steady, greedy := New(), New()
	for now := range 300 {
		wantTake(t, steady, 7, now, api.OK)
		wantLeft(t, steady, 7, burst-1)
		wantTurns(t, greedy, 7, now, max(1, burst-burst*now))
	}
	for range burst - 1 {
		wantTake(t, steady, 7, 299, api.OK)
	}
	wantTake(t, steady, 7, 299, api.ErrLimit)
}

// P33: each source has its turn more, also if another one takes.
func TestWhoeverTakes(t *testing.T) {
	b := New()
	for i, from := range many(burst) {
		for range i + 1 {
			wantTake(t, b, from, 50, api.OK)
		}
	}
	for tick := range 10 {
		wantTake(t, b, 99, 50+tick, api.OK)
		for i, from := range many(burst) {
			wantLeft(t, b, from, min(burst, burst-1-i+tick))
		}
	}
}

// P33: ticks that go by one by one, by the calls of another source, do what they
// do at once.
func TestOneByOneAndAtOnce(t *testing.T) {
	for taken := 1; taken <= burst; taken++ {
		for ticks := range 12 {
			one, once := behind(t, times(7, 3, taken)...), behind(t, times(7, 3, taken)...)
			for i := range ticks {
				wantTake(t, one.Bucket, 8, 4+i, api.OK)
			}
			wantTake(t, one.Bucket, 9, 3+ticks, api.OK)
			wantTake(t, once.Bucket, 9, 3+ticks, api.OK)
			wantLeft(t, one.Bucket, 7, min(burst, burst-taken+ticks))
			wantLeft(t, once.Bucket, 7, min(burst, burst-taken+ticks))
			wantLeft(t, one.Bucket, 9, burst-1)
			wantTurns(t, one.Bucket, 7, 3+ticks, min(burst, burst-taken+ticks))
			wantTurns(t, once.Bucket, 7, 3+ticks, min(burst, burst-taken+ticks))
		}
	}
}

// P33: several sources, each with its own turns, in whatever order they take.
func TestSeveral(t *testing.T) {
	r := rand.New(rand.NewSource(33))
	for _, count := range []int{2, 3, 8, 15, 16} {
		for _, now := range rightTimes() {
			list := many(count)
			b := behind(t, mixed(each(list, now, burst), r)...)
			for _, from := range list {
				b.wantTake(t, from, now)
				wantLeft(t, b.Bucket, from, 0)
			}
			b.wantAll(t)
			if now == most {
				continue
			}
			for i, from := range mixed(list, r) {
				b.wantTake(t, from, min(most, now+1+i%3))
				b.wantAll(t)
			}
		}
	}
}

// P33: whoever has Burst again is no more there, not a tick ahead of that: the
// seventeenth, for whom there was no room, is let in just then.
func TestGoes(t *testing.T) {
	for taken := 1; taken <= burst; taken++ {
		list := many(room)
		for i, from := range list {
			calls := times(from, 20, taken)
			for j, other := range list {
				if j != i {
					calls = append(calls, times(other, 20, burst)...)
				}
			}
			b := behind(t, calls...)
			for now := 20; now < 20+taken; now++ {
				wantTake(t, b.Bucket, 99, now, api.ErrFull)
				wantLeft(t, b.Bucket, from, burst-taken+now-20)
				b.wantTake(t, 99, now)
				b.wantAll(t)
			}
			wantTake(t, b.Bucket, 99, 20+taken, api.OK)
			wantLeft(t, b.Bucket, from, burst)
			if taken < burst {
				wantTake(t, b.Bucket, from, 20+taken, api.ErrFull)
			} else {
				wantTake(t, b.Bucket, from, 20+taken, api.OK)
			}
		}
	}
}

// P33: a source that has gone is as one that never was: it comes again with Burst
// turns, and has no more than those.
func TestComesAgain(t *testing.T) {
	for taken := 1; taken <= burst; taken++ {
		for _, step := range steps() {
			if step < taken {
				continue
			}
			b := behind(t, times(7, 9, taken)...)
			b.wantTake(t, 8, 9+step)
			wantLeft(t, b.Bucket, 7, burst)
			b.wantAll(t)
			fresh := behind(t, call{8, 9 + step})
			wantKept(t, b.Bucket, whatIsKept(fresh.Bucket))
			wantTurns(t, b.Bucket, 7, 9+step, burst)
			wantTurns(t, b.Bucket, 7, 10+step, 1)
		}
	}
}

// P33: in any span of time no source is let more often than Burst and one for each
// tick that went by; and a greedy one is let just as often.
func TestHowOften(t *testing.T) {
	r := rand.New(rand.NewSource(3320))
	for i := range 200 {
		b, now := New(), 0
		var let []int
		for range 150 {
			now += max(0, r.Intn(4+i%9)-2)
			for range r.Intn(8) {
				if b.Take(7, now) == api.OK {
					let = append(let, now)
				}
			}
		}
		for first := range let {
			for last := first; last < len(let); last++ {
				if last-first+1 > burst+let[last]-let[first] {
					t.Fatal(last-first+1, "turns from", let[first], "to", let[last])
				}
			}
		}
	}
	b, count := New(), 0
	for now := range 1000 {
		for range 20 {
			if b.Take(7, now) == api.OK {
				count++
			}
		}
	}
	if count != burst+999 {
		t.Error(count)
	}
}

// P33: any calls in any order.
func TestAnyOrder(t *testing.T) {
	r := rand.New(rand.NewSource(20330))
	for i := range 200 {
		b := newBoth()
		list := many([]int{1, 2, 5, 16, 17, 18, 25, 40}[i%8])
		now := rightTimes()[r.Intn(8)]
		for range 200 {
			switch r.Intn(12) {
			case 0:
				b.wantTake(t, list[r.Intn(len(list))], now-1-r.Intn(9))
			case 1:
				b.wantTake(t, list[r.Intn(len(list))], wrongTimes()[r.Intn(len(wrongTimes()))])
			case 2, 3:
				now += r.Intn(1 + i%7)
			case 4:
				b.wantLeft(t, list[r.Intn(len(list))])
			}
			b.wantTake(t, list[r.Intn(len(list))], now)
			b.wantLeft(t, list[r.Intn(len(list))])
		}
		b.wantAll(t)
	}
}

// P33: each sequence of calls of three sources that are some ticks apart.
func TestEachSequence(t *testing.T) {
	apart := []int{-1, 0, 1, 2, burst - 1, burst, most}
	var goOn func(list []call, now int)
	goOn = func(list []call, now int) {
		b := newBoth()
		for _, c := range list {
			b.wantTake(t, c.from, c.now)
		}
		b.wantAll(t)
		if len(list) == 4 || t.Failed() {
			return
		}
		for _, from := range []uint32{0, 7, high} {
			for _, ticks := range apart {
				goOn(append(slices.Clone(list), call{from, now + ticks}), max(now, min(most, now+ticks)))
			}
		}
	}
	goOn(nil, 0)
}

// P33: each number of turns that are taken, and of ticks behind it, three times
// one upon the other, of two sources.
func TestTakenAndTicks(t *testing.T) {
	for i := range 7 * 7 * 7 * 7 * 7 * 7 {
		b, now := newBoth(), 0
		for n := i; n > 0; n /= 49 {
			for range n % 7 {
				b.wantTake(t, 1, now)
			}
			now += n / 7 % 7
			b.wantTake(t, 2, now)
			b.wantLeft(t, 1)
		}
		b.wantLeft(t, 2)
	}
}

// P33, the edges: a bucket that has none yet, and whose time is 0.
func TestLeftAhead(t *testing.T) {
	b := newBoth()
	for range 2 {
		for i := range 32 {
			wantLeft(t, b.Bucket, 1<<i, burst)
			wantLeft(t, b.Bucket, high-1<<i, burst)
		}
		b.wantAll(t)
	}
	wantTake(t, b.Bucket, 0, -1, api.ErrArg)
	wantLeft(t, b.Bucket, 0, burst)
	wantTake(t, b.Bucket, 0, 0, api.OK)
	wantLeft(t, b.Bucket, 0, burst-1)
}

// P33, the edges: the first Take, at 0, at 1, at MaxTime and in between.
func TestFirstTake(t *testing.T) {
	for _, now := range rightTimes() {
		for _, from := range anySources() {
			b := behind(t, call{from, now})
			b.wantAll(t)
			wantLeft(t, b.Bucket, from, burst-1)
			wantTake(t, b.Bucket, from, now-1, api.ErrArg)
			wantTurns(t, b.Bucket, from, now, burst-1)
		}
	}
}

// P33, the edges: at the same time once more there is no turn more, whoever asks.
func TestSameTime(t *testing.T) {
	for _, now := range rightTimes() {
		b := behind(t, times(7, now, 3)...)
		for i := range 20 {
			b.wantTake(t, uint32(100+i), now)
			wantLeft(t, b.Bucket, 7, 2)
		}
		b.wantTake(t, 7, now)
		wantLeft(t, b.Bucket, 7, 1)
		b.wantTake(t, 7, now)
		for range 100 {
			wantTake(t, b.Bucket, 7, now, api.ErrLimit)
			wantTake(t, b.Bucket, 99, now, api.ErrFull)
		}
		b.wantAll(t)
	}
}

// P33, the edges: how many ticks go by, at each number of turns that are left.
func TestTicks(t *testing.T) {
	for _, now := range []int{0, 1, 77, 1 << 32, most - burst - 1} {
		for taken := 1; taken <= burst; taken++ {
			for ticks := range burst + 2 {
				b := behind(t, times(7, now, taken)...)
				b.wantTake(t, 8, now+ticks)
				b.wantAll(t)
				wantLeft(t, b.Bucket, 7, min(burst, burst-taken+ticks))
				b.wantTake(t, 7, now+ticks)
				b.wantAll(t)
			}
		}
	}
}

// P33, the edges: at MaxTime, and one tick ahead of it, all is as it is elsewhere,
// but for that no tick comes behind it.
func TestEndOfTime(t *testing.T) {
	b := New()
	wantTurns(t, b, 7, most-1, burst)
	wantTurns(t, b, 7, most, 1)
	wantTake(t, b, 7, most+1, api.ErrArg)
	wantTake(t, b, 7, most-1, api.ErrArg)
	wantTurns(t, b, 8, most, burst)
	wantTake(t, b, 7, most, api.ErrLimit)

	for taken := 1; taken <= burst; taken++ {
		b = behind(t, times(7, 0, taken)...).Bucket
		wantTurns(t, b, 7, most, burst)
		wantTake(t, b, 7, 0, api.ErrArg)
		wantTake(t, b, 7, most, api.ErrLimit)
	}
}

// P33, the edges: from 0 to MaxTime at once all go.
func TestAllTimeAtOnce(t *testing.T) {
	for count := range room + 1 {
		b := behind(t, each(many(count), 0, burst)...)
		b.wantTake(t, 99, most)
		b.wantAll(t)
		for _, from := range many(count) {
			wantLeft(t, b.Bucket, from, burst)
		}
	}
}

// P33, the edges: there is room for sixteen sources, however many turns they took,
// and not for the next one at the same time; the sixteen are let still.
func TestFull(t *testing.T) {
	r := rand.New(rand.NewSource(16))
	for _, now := range rightTimes() {
		for taken := 1; taken <= burst; taken++ {
			list := mixed(many(room), r)
			b := behind(t, each(list[:room-1], now, taken)...)
			wantLeft(t, b.Bucket, list[room-1], burst)
			for range taken {
				b.wantTake(t, list[room-1], now)
			}
			for _, from := range []uint32{99, 100, 2, high - 1, 1<<31 + 1, 1 << 16} {
				wantTake(t, b.Bucket, from, now, api.ErrFull)
				wantLeft(t, b.Bucket, from, burst)
				b.wantAll(t)
			}
			for _, from := range list {
				wantTurns(t, b.Bucket, from, now, burst-taken)
				wantTake(t, b.Bucket, 99, now, api.ErrFull)
			}
		}
	}
}

// P33, the edges: sixteen that all go at one tick, behind which there is room for
// sixteen others.
func TestAllGo(t *testing.T) {
	for taken := 1; taken <= burst; taken++ {
		b := behind(t, each(many(room), 40, taken)...)
		if taken > 1 {
			b.wantTake(t, 99, 40+taken-1)
			wantTake(t, b.Bucket, 99, 40+taken-1, api.ErrFull)
			b.wantAll(t)
		}
		for i := range room {
			wantTake(t, b.Bucket, uint32(200+i), 40+taken, api.OK)
			b.said.take(uint32(200+i), 40+taken)
			b.wantAll(t)
		}
		for _, from := range many(room) {
			wantTake(t, b.Bucket, from, 40+taken, api.ErrFull)
			wantLeft(t, b.Bucket, from, burst)
		}
	}
}

// P33, the edges: sixteen of which some go at each tick, leaving room for just as many.
func TestSomeGo(t *testing.T) {
	b := New()
	for i := range room {
		for range 1 + i%burst {
			wantTake(t, b, uint32(i), 8, api.OK)
		}
	}
	for ticks := 1; ticks <= burst; ticks++ {
		gone := 3
		if ticks == 1 {
			gone = 4
		}
		for i := range gone {
			wantTurns(t, b, uint32(100*ticks+i), 8+ticks, burst)
		}
		wantTake(t, b, uint32(100*ticks+gone), 8+ticks, api.ErrFull)
		for i := range room {
			wantLeft(t, b, uint32(i), min(burst, burst-1-i%burst+ticks))
		}
	}
}

// P33, the edges: a bucket that is filled and empties many times has room each time.
func TestFilledAgainAndAgain(t *testing.T) {
	b := newBoth()
	for i := range 60 {
		for j := range room {
			b.wantTake(t, uint32(i*7+j), i*burst)
		}
		wantTake(t, b.Bucket, uint32(i*7+room), i*burst, api.ErrFull)
		b.wantAll(t)
	}
}

// P33 and P2: a Bucket keeps no more than sixteen sources, however many come, and
// none once all have gone.
func TestBucketStaysSmall(t *testing.T) {
	b := New()
	for i := range 20000 {
		b.Take(uint32(i), i/5)
		if len(b.turns) > room {
			t.Fatal(len(b.turns), "sources")
		}
	}
	wantTake(t, b, 7, most, api.OK)
	wantKept(t, b, kept{map[uint32]int{7: burst - 1}, most})
}

// used answers buckets that have some, and one that has none.
func used(t *testing.T) []both {
	t.Helper()
	return []both{
		newBoth(), behind(t, call{0, 0}), behind(t, call{7, 1}), behind(t, times(high, 100, burst)...),
		behind(t, each(many(3), 6, 2)...), behind(t, each(many(room), 50, 1)...), behind(t, each(many(room), 1<<32, burst)...),
		behind(t, append(each(many(15), 50, 4), call{99, 53})...), behind(t, each(many(room), most-1, 3)...), behind(t, each(many(room), most, burst)...),
		behind(t, call{7, 3}, call{8, most}), behind(t, call{7, most - 1}),
	}
}

// P33, wrong inputs: times that no bucket has; nothing has changed behind them,
// neither the time nor any turns.
func TestWrongTimes(t *testing.T) {
	for _, b := range used(t) {
		then := whatIsKept(b.Bucket)
		for _, now := range wrongTimes() {
			for _, from := range append(anySources(), 7, 99) {
				wantTake(t, b.Bucket, from, now, api.ErrArg)
			}
			wantKept(t, b.Bucket, then)
		}
		for i := range 63 {
			wantTake(t, b.Bucket, 7, -1<<i, api.ErrArg)
			wantTake(t, b.Bucket, 7, most+1<<i, api.ErrArg)
		}
		wantKept(t, b.Bucket, then)
		b.wantAll(t)
		b.wantTake(t, 7, b.said.time)
		b.wantAll(t)
	}
}

// P33, wrong inputs: times below the bucket's, 0 and one below it among them.
func TestBelowTime(t *testing.T) {
	for _, b := range used(t) {
		then := whatIsKept(b.Bucket)
		for _, now := range append(rightTimes(), then.time-1, then.time-2, then.time-burst, then.time/2) {
			if now >= then.time {
				continue
			}
			for _, from := range append(anySources(), 7, 99) {
				wantTake(t, b.Bucket, from, now, api.ErrArg)
			}
			wantKept(t, b.Bucket, then)
		}
		b.wantAll(t)
		b.wantTake(t, 99, then.time)
		b.wantAll(t)
	}
}

// P33, wrong inputs: a wrong time is told ahead of a source without turns, and
// ahead of one for which there is no room.
func TestSeveralWrong(t *testing.T) {
	b := behind(t, each(many(room), 70, burst)...)
	for _, now := range []int{69, 0, -1, most + 1, math.MinInt, math.MaxInt} {
		for _, from := range append(many(room), 99, 100) {
			wantTake(t, b.Bucket, from, now, api.ErrArg)
		}
	}
	b.wantAll(t)
	for _, from := range many(room) {
		wantTake(t, b.Bucket, from, 70, api.ErrLimit)
	}
	wantTake(t, b.Bucket, 99, 70, api.ErrFull)
	b.wantAll(t)
}

// P33: with ErrFull the time has gone by all the same: a time below it is wrong
// behind that, and each source has its turns more.
func TestFullPasses(t *testing.T) {
	for ticks := 1; ticks < burst; ticks++ {
		b := behind(t, each(many(room), 70, burst)...)
		wantTake(t, b.Bucket, 99, 70+ticks, api.ErrFull)
		b.said.take(99, 70+ticks)
		b.wantAll(t)
		for now := 70; now < 70+ticks; now++ {
			wantTake(t, b.Bucket, 99, now, api.ErrArg)
			wantTake(t, b.Bucket, 1, now, api.ErrArg)
		}
		for _, from := range many(room) {
			wantTurns(t, b.Bucket, from, 70+ticks, ticks)
		}
		wantTake(t, b.Bucket, 99, 70+ticks, api.ErrFull)
	}
}

// P33: with ErrLimit the time is the one that was handed in, too, and nobody's
// turns are fewer. (No tick has gone by with it: behind one, each source has a turn.)
func TestLimitPasses(t *testing.T) {
	for _, now := range rightTimes() {
		b := behind(t, append(times(7, now, burst), times(8, now, 2)...)...)
		then := whatIsKept(b.Bucket)
		wantTake(t, b.Bucket, 7, now, api.ErrLimit)
		wantKept(t, b.Bucket, then)
		wantTake(t, b.Bucket, 8, now-1, api.ErrArg)
		if now < most {
			wantTake(t, b.Bucket, 7, now+1, api.OK)
			wantTake(t, b.Bucket, 7, now+1, api.ErrLimit)
			wantTake(t, b.Bucket, 7, now, api.ErrArg)
			wantLeft(t, b.Bucket, 8, burst-1)
		}
	}
}

// P33: Left changes nothing, however often it is asked, and of whomever.
func TestLeftChangesNothing(t *testing.T) {
	for _, b := range used(t) {
		then := whatIsKept(b.Bucket)
		for range 3 {
			b.wantAll(t)
			for from := range uint32(300) {
				b.wantLeft(t, from)
			}
		}
		wantKept(t, b.Bucket, then)
	}
}

// P33: what is wrong on the way stops nothing: the next one is let.
func TestGoesOn(t *testing.T) {
	b := newBoth()
	for now := range 300 {
		b.wantTake(t, 7, wrongTimes()[now%len(wrongTimes())])
		b.wantTake(t, 7, now-1)
		for from := range uint32(room) {
			wantTake(t, b.Bucket, from, now, api.OK)
			b.said.take(from, now)
		}
		b.wantTake(t, room, now)
		b.wantTake(t, 7, most+1)
		b.wantAll(t)
	}
}

// P33: a Bucket is no more than its time and who has how many turns left: one that
// comes to these in another way goes on as this one.
func TestComesToTheSame(t *testing.T) {
	r := rand.New(rand.NewSource(331))
	for range 300 {
		one := newBoth()
		for now := range 30 {
			one.wantTake(t, uint32(r.Intn(18)), now-now%(1+r.Intn(5)))
		}
		one.wantTake(t, 99, 30)
		other := behind(t, one.said.calls()...)
		wantKept(t, other.Bucket, whatIsKept(one.Bucket))
		for range 30 {
			from, now := uint32(r.Intn(18)), 30+r.Intn(8)
			one.wantTake(t, from, now)
			other.wantTake(t, from, now)
		}
		wantKept(t, other.Bucket, whatIsKept(one.Bucket))
	}
}

// calls answers calls behind which a new bucket is as this one, unless it is empty.
func (s *said) calls() []call {
	var list []call
	for _, x := range s.list {
		list = append(list, times(x.from, s.time, burst-x.turns)...)
	}
	return list
}

// P2: buckets have nothing to do with each other, asked by turns, those that are
// made in between included.
func TestApart(t *testing.T) {
	one, other := newBoth(), newBoth()
	r := rand.New(rand.NewSource(52))
	for i := range 300 {
		one.wantTake(t, uint32(r.Intn(20)), i)
		other.wantTake(t, uint32(r.Intn(20)), 1000000+i/3)
		one.wantAll(t)
		other.wantAll(t)
		newBoth().wantAll(t)
	}
	wantTake(t, one.Bucket, 7, 298, api.ErrArg)
	wantTake(t, New(), 7, 0, api.OK)
	full, none := behind(t, each(many(room), 0, burst)...), newBoth()
	for _, from := range many(room) {
		wantTake(t, full.Bucket, from, 0, api.ErrLimit)
		wantTake(t, none.Bucket, from, 0, api.OK)
	}
}

// P2: each answer of New is another bucket, that has none.
func TestNewEachTime(t *testing.T) {
	seen := map[*Bucket]bool{}
	for range 100 {
		b := New()
		if b == nil || seen[b] {
			t.Fatal("the same bucket once more")
		}
		seen[b] = true
		wantKept(t, b, kept{})
		wantTurns(t, b, 7, 0, burst)
		wantTake(t, b, 8, most, api.OK)
		newBoth().wantAll(t)
	}
	for b := range seen {
		wantKept(t, b, kept{map[uint32]int{8: burst - 1}, most})
	}
}

// P2: the same calls answer the same, as often as they are asked anew.
func TestSameCallsSameAnswers(t *testing.T) {
	r := rand.New(rand.NewSource(2033))
	for range 20 {
		var list []call
		now := 0
		for range 300 {
			now += max(0, r.Intn(8)-5)
			list = append(list, call{uint32(r.Intn(22)), now})
		}
		first := answers(list)
		for range 20 {
			if again := answers(list); !slices.Equal(again, first) {
				t.Fatal(again, "behind", first)
			}
		}
	}
}

// answers answers what the calls of a new bucket do, and Left of each source behind them.
func answers(list []call) []int {
	b := New()
	var all []int
	for _, c := range list {
		all = append(all, int(b.Take(c.from, c.now)), b.Left(c.from))
	}
	for from := range uint32(30) {
		all = append(all, b.Left(from))
	}
	return all
}

// P2: whatever order the sources came in, and so lie in, the answers are the same.
func TestWhateverOrder(t *testing.T) {
	r := rand.New(rand.NewSource(1633))
	var come []call
	for i := range room {
		come = append(come, times(uint32(i), 30, 1+i%burst)...)
	}
	var behindThem []call
	for i := range 200 {
		behindThem = append(behindThem, call{uint32(r.Intn(25)), 30 + i/20})
	}
	right := answers(append(slices.Clone(come), behindThem...))[2*len(come):]
	for range 100 {
		got := answers(append(mixed(come, r), behindThem...))[2*len(come):]
		if !slices.Equal(got, right) {
			t.Fatal(got, "instead of", right)
		}
	}
}

// P2: nothing is kept but in a Bucket: the same calls answer the same at the same
// time as those of other buckets.
func TestAnswersStay(t *testing.T) {
	old := behind(t, each(many(room), 70, 3)...)
	var group sync.WaitGroup
	for i := range 40 {
		group.Go(func() {
			b := newBoth()
			r := rand.New(rand.NewSource(int64(i % 3)))
			for now := range 200 {
				b.wantTake(t, uint32(r.Intn(20)), now/3)
			}
			b.wantAll(t)
		})
	}
	group.Wait()
	old.wantAll(t)
}

// P1 and P33: whatever comes, of all sizes, is answered as the chapter's words say.
func TestAnythingAnswers(t *testing.T) {
	r := rand.New(rand.NewSource(3301))
	for range 500 {
		b := newBoth()
		for range 60 {
			from := r.Uint32() >> r.Intn(32)
			now := int(r.Uint64()) >> r.Intn(64)
			if r.Intn(4) > 0 {
				now = b.said.time + max(0, r.Intn(6)-3)
			}
			b.wantTake(t, from, now)
			b.wantLeft(t, from)
			b.wantTake(t, from, now)
			b.wantLeft(t, r.Uint32()>>r.Intn(32))
		}
		b.wantAll(t)
	}
}

// P1 and P33 for whatever comes: of each byte the lower five bits are the source, or,
// if they are 31, from; and the upper three are how many ticks go by, or, if they
// are 6 or 7, that the time is one below the bucket's, or now.
func FuzzAnything(f *testing.F) {
	f.Add(uint32(0), 0, []byte{0, 0, 0, 0, 0, 0, 1, 32, 32, 192, 224})
	f.Add(uint32(high), most, []byte{31, 31, 31, 255, 255, 255, 31, 192, 0})
	f.Add(uint32(7), 10, []byte{224, 1, 2, 3, 4, 5, 6, 7, 8, 9, 10, 11, 12, 13, 14, 15, 16, 17, 32, 33, 160, 17})
	for _, now := range append(rightTimes(), wrongTimes()...) {
		f.Add(uint32(1<<31), now, []byte{1, 31, 31, 255, 31, 63, 95, 127, 159, 191, 223, 255, 33, 34})
	}
	f.Fuzz(func(t *testing.T, from uint32, now int, list []byte) {
		b := newBoth()
		for _, c := range list[:min(len(list), 300)] {
			who, when := uint32(c&31), b.said.time+int(c>>5)
			if who == 31 {
				who = from
			}
			if c>>5 == 6 {
				when = b.said.time - 1
			} else if c>>5 == 7 {
				when = now
			}
			b.wantTake(t, who, when)
			b.wantLeft(t, who)
			b.wantLeft(t, from)
		}
		b.wantAll(t)
	})
}
