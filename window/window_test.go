package window

import (
	"math"
	"math/rand"
	"reflect"
	"slices"
	"sync"
	"testing"

	"souterrain/api"
)

// rightNumbers answers numbers that a window may have.
func rightNumbers() []int {
	return []int{0, 1, 2, 62, 63, 64, 65, 127, 128, 1<<31 - 1, 1 << 31, 1<<32 - 1, 1 << 32, 1 << 39,
		most - 65, most - 64, most - 63, most - 62, most - 1, most}
}

// wrongNumbers answers numbers that no window has, some of which would be right by their
// lower bits alone.
func wrongNumbers() []int {
	return []int{-1, -2, -63, -64, -65, -1 << 32, -most, -most - 1, most + 1, most + 2, most + 64, most + 65, most + 1<<32,
		1 << 41, 1 << 62, 1<<62 + 7, -1 << 62, math.MaxInt - 64, math.MaxInt - 1, math.MaxInt, math.MinInt, math.MinInt + 1, math.MinInt + 7, math.MinInt + 64}
}

// steps answers how far above the highest one another number comes.
func steps() []int {
	return []int{1, 2, 31, 32, 62, 63, 64, 65, 66, 126, 127, 128, 129, 191, 192, 255, 256, 1000, 1<<31 - 1, 1 << 31, 1 << 32, 1<<32 + 1, 1<<32 + 63, 1 << 38}
}

// sideBySide answers count numbers, the lowest one first.
func sideBySide(from, count int) []int {
	list := make([]int, count)
	for i := range list {
		list[i] = from + i
	}
	return list
}

func backwards(list []int) []int {
	list = slices.Clone(list)
	slices.Reverse(list)
	return list
}

func mixed(list []int, r *rand.Rand) []int {
	list = slices.Clone(list)
	r.Shuffle(len(list), func(i, j int) { list[i], list[j] = list[j], list[i] })
	return list
}

func wantCheck(t *testing.T, w *Window, n int, right api.Errno) {
	t.Helper()
	if got := w.Check(n); got != right {
		t.Errorf("Check(%d) = %d; want %d", n, got, right)
	}
}

func wantTake(t *testing.T, w *Window, n int, right api.Errno) {
	t.Helper()
	if got := w.Take(n); got != right {
		t.Errorf("Take(%d) = %d; want %d", n, got, right)
	}
}

func wantNext(t *testing.T, w *Window, right int) {
	t.Helper()
	if got := w.Next(); got != right {
		t.Errorf("Next() = %d; want %d", got, right)
	}
}

// P23: what each call answers, written out.
func TestWrittenOut(t *testing.T) {
	w := New()
	wantNext(t, w, 0)
	for _, c := range []struct {
		n     int
		check api.Errno
		next  int
	}{
		{5, api.OK, 6},
		{5, api.ErrOld, 6},
		{3, api.OK, 6},
		{4, api.OK, 6},
		{3, api.ErrOld, 6},
		{0, api.OK, 6},
		{0, api.ErrOld, 6},
		{70, api.OK, 71},
		{6, api.ErrOld, 71},
		{7, api.OK, 71},
		{7, api.ErrOld, 71},
		{5, api.ErrOld, 71},
		{1, api.ErrOld, 71},
		{8, api.OK, 71},
		{71, api.OK, 72},
		{8, api.ErrOld, 72},
		{9, api.OK, 72},
		{7, api.ErrOld, 72},
		{-1, api.ErrArg, 72},
		{133, api.OK, 134},
		{70, api.ErrOld, 134},
		{71, api.ErrOld, 134},
		{72, api.OK, 134},
		{69, api.ErrOld, 134},
		{1 << 40, api.OK, 1<<40 + 1},
		{1<<40 + 1, api.ErrArg, 1<<40 + 1},
		{1<<40 - 63, api.OK, 1<<40 + 1},
		{1<<40 - 64, api.ErrOld, 1<<40 + 1},
		{133, api.ErrOld, 1<<40 + 1},
	} {
		wantCheck(t, w, c.n, c.check)
		wantTake(t, w, c.n, c.check)
		wantNext(t, w, c.next)
	}
}

// P23: numbers that come one behind the other are all taken, and each just once.
func TestOneBehindTheOther(t *testing.T) {
	for _, from := range []int{0, 1, 63, 64, 1<<32 - 100, most - 399} {
		w := New()
		for n := from; n < from+400; n++ {
			wantCheck(t, w, n, api.OK)
			wantTake(t, w, n, api.OK)
			wantNext(t, w, n+1)
			for old := max(0, n-200); old <= n; old++ {
				if old >= from || n-old >= width {
					wantCheck(t, w, old, api.ErrOld)
				}
			}
			wantTake(t, w, n, api.ErrOld)
			wantNext(t, w, n+1)
		}
	}
}

// P23: sixty-four side by side are all to be had, in whatever order they come,
// and none of them twice.
func TestSideBySide(t *testing.T) {
	r := rand.New(rand.NewSource(2364))
	for _, from := range []int{0, 1, 30, 64, 1000, 1<<32 - 32, most - 63} {
		list := sideBySide(from, width)
		orders := [][]int{list, backwards(list), append(backwards(list[32:]), list[:32]...)}
		for range 40 {
			orders = append(orders, mixed(list, r))
		}
		for _, order := range orders {
			w := New()
			for _, n := range order {
				wantTake(t, w, n, api.OK)
				wantTake(t, w, n, api.ErrOld)
			}
			for _, n := range order {
				wantCheck(t, w, n, api.ErrOld)
				wantTake(t, w, n, api.ErrOld)
			}
			wantNext(t, w, from+width)
		}
	}
}

// P23: more than sixty-four side by side: those that come too late are old,
// though they were never taken.
func TestMoreSideBySide(t *testing.T) {
	r := rand.New(rand.NewSource(6423))
	for _, count := range []int{65, 66, 127, 128, 129, 200} {
		for _, from := range []int{0, 1, 500, most + 1 - count} {
			list := sideBySide(from, count)
			w := New()
			for i, n := range backwards(list) {
				if i < width {
					wantTake(t, w, n, api.OK)
				} else {
					wantTake(t, w, n, api.ErrOld)
				}
				wantNext(t, w, from+count)
			}
			b := newBoth()
			for _, n := range mixed(list, r) {
				b.wantTake(t, n)
				b.wantAll(t)
			}
		}
	}
}

// P23: numbers in any order, with whatever lies around them asked behind each.
func TestAnyOrder(t *testing.T) {
	r := rand.New(rand.NewSource(1523))
	for _, from := range []int{0, 40, 64, 1<<32 - 300, most - 300} {
		for _, spread := range []int{3, 40, 64, 70, 130, 400} {
			b := newBoth()
			for range 80 {
				n := from + r.Intn(spread)
				b.wantCheck(t, n)
				b.wantTake(t, n)
				b.wantAll(t)
				// What comes later on is mostly higher, and not always.
				from = max(0, from+r.Intn(spread)-spread/3)
			}
		}
	}
}

// P23: each sequence of three numbers at the bounds of a window and of numbers.
func TestEachSequence(t *testing.T) {
	list := []int{-1, 0, 1, 62, 63, 64, 65, 126, 127, 128, 129, most - 64, most - 63, most - 1, most, most + 1}
	for _, first := range list {
		for _, second := range list {
			for _, third := range list {
				b := newBoth()
				b.wantTake(t, first)
				b.wantTake(t, second)
				b.wantTake(t, third)
				b.wantNext(t)
				for _, n := range list {
					b.wantCheck(t, n)
				}
			}
		}
	}
}

// P23: what was taken is old at once, and stays old, whatever comes behind it.
func TestAskedAgain(t *testing.T) {
	for _, n := range []int{0, 1, 10, 63, 64, 1 << 32} {
		w := New()
		wantTake(t, w, n, api.OK)
		wantCheck(t, w, n, api.ErrOld)
		wantTake(t, w, n, api.ErrOld)
		for later := n + 1; later < n+500; later++ {
			wantTake(t, w, later, api.OK)
			wantCheck(t, w, n, api.ErrOld)
			wantTake(t, w, n, api.ErrOld)
		}
		for _, step := range steps() {
			wantTake(t, w, n+500+step, api.OK)
			wantTake(t, w, n, api.ErrOld)
			wantTake(t, w, n+499, api.ErrOld)
			wantTake(t, w, n+500+step, api.ErrOld)
			wantNext(t, w, n+500+step+1)
		}
		wantTake(t, w, most, api.OK)
		wantTake(t, w, n, api.ErrOld)
		wantNext(t, w, most+1)
	}
}

// P23: Check takes nothing, however often it is asked: what it finds nothing
// wrong with may be taken, and all others are as they were.
func TestCheckTakesNothing(t *testing.T) {
	for _, list := range [][]int{{}, {0}, {70, 10, 68}, {1000, 937}, {most - 70}} {
		b := behind(t, list...)
		next := b.Next()
		for _, n := range around(next) {
			first := b.Check(n)
			wantCheck(t, b.Window, n, first)
			wantNext(t, b.Window, next)
		}
		b.wantAll(t)
		for _, n := range around(next) {
			if b.said.check(n) != api.OK {
				continue
			}
			one := behind(t, list...)
			wantCheck(t, one.Window, n, api.OK)
			wantCheck(t, one.Window, n, api.OK)
			wantTake(t, one.Window, n, api.OK)
			wantCheck(t, one.Window, n, api.ErrOld)
		}
	}
}

// P23, the edges: a window that has none yet.
func TestEmpty(t *testing.T) {
	w := New()
	for n := range 1000 {
		wantCheck(t, w, n, api.OK)
		wantCheck(t, w, most-n, api.OK)
	}
	r := rand.New(rand.NewSource(15))
	for range 1000 {
		wantCheck(t, w, int(r.Int63n(most+1)), api.OK)
	}
	for i := range 40 {
		wantCheck(t, w, 1<<i, api.OK)
	}
	wantNext(t, w, 0)
	for _, n := range rightNumbers() {
		w := New()
		wantNext(t, w, 0)
		wantCheck(t, w, n, api.OK)
		wantTake(t, w, n, api.OK)
		wantTake(t, w, n, api.ErrOld)
		wantNext(t, w, n+1)
	}
}

// P23, the edges: 0 and MaxTime, in both orders.
func TestBothEnds(t *testing.T) {
	w := New()
	wantTake(t, w, 0, api.OK)
	wantNext(t, w, 1)
	wantTake(t, w, most, api.OK)
	wantNext(t, w, most+1)
	wantTake(t, w, 0, api.ErrOld)
	wantTake(t, w, most, api.ErrOld)
	w = New()
	wantTake(t, w, most, api.OK)
	wantTake(t, w, 0, api.ErrOld)
	wantTake(t, w, w.Next(), api.ErrArg)
	wantNext(t, w, most+1)
}

// P23, the edges: whatever number comes first, sixty-three below it may still
// come, and no more.
func TestFirst(t *testing.T) {
	for _, n := range append(rightNumbers(), 7, 300, 1000, 1<<20+5, 1<<32+17, 987654321012) {
		w := New()
		wantTake(t, w, n, api.OK)
		wantNext(t, w, n+1)
		for low := n - 1; low >= 0 && low >= n-300; low-- {
			if n-low < width {
				wantCheck(t, w, low, api.OK)
			} else {
				wantCheck(t, w, low, api.ErrOld)
			}
		}
		for high := n + 1; high <= most && high <= n+300; high++ {
			wantCheck(t, w, high, api.OK)
		}
		behind(t, n).wantAll(t)
	}
}

// P23, the edges: of the highest one 63, 64 and 65 below it, taken already or not.
func TestBelowHighest(t *testing.T) {
	for _, n := range []int{65, 66, 100, 128, 129, 1000, 1 << 32, most - 1, most} {
		w := New()
		wantTake(t, w, n, api.OK)
		wantTake(t, w, n-65, api.ErrOld)
		wantTake(t, w, n-64, api.ErrOld)
		wantTake(t, w, n-63, api.OK)
		wantTake(t, w, n-63, api.ErrOld)
		wantTake(t, w, n-62, api.OK)
		wantTake(t, w, n-1, api.OK)
		wantTake(t, w, n, api.ErrOld)
		wantNext(t, w, n+1)

		w = behind(t, n-65, n-64, n-63, n).Window
		for _, below := range []int{63, 64, 65} {
			wantCheck(t, w, n-below, api.ErrOld)
			wantTake(t, w, n-below, api.ErrOld)
		}
		wantTake(t, w, n-62, api.OK)
		wantNext(t, w, n+1)
	}
}

// patterns answers which of the 64 below a number are taken ahead of it: none,
// all, each one by itself, all but each one, and some by chance.
func patterns() [][]int {
	all := sideBySide(1, width)
	list := [][]int{nil, all, {1, 63}, {1, 64}, {32, 31}}
	r := rand.New(rand.NewSource(4215))
	for i, below := range all {
		list = append(list, []int{below}, slices.Delete(slices.Clone(all), i, i+1))
		list = append(list, mixed(all, r)[:r.Intn(width)])
	}
	return list
}

// P23, the edges: one comes above the highest one, near it and far away: what was
// taken is old, what was not is to be had, unless it lies too low now.
func TestAbove(t *testing.T) {
	for _, highest := range []int{64, 1000, 1 << 38} {
		for _, pattern := range patterns() {
			var list []int
			for _, below := range pattern {
				list = append(list, highest-below)
			}
			// Otherwise what lies 64 below the highest one would come too late.
			slices.Sort(list)
			for _, step := range steps() {
				b := behind(t, append(slices.Clone(list), highest)...)
				b.wantNext(t)
				b.wantTake(t, highest+step)
				b.wantAll(t)
			}
		}
	}
}

// P23: what is to be had behind a step upwards is taken then, each of it once.
func TestHadBehindAbove(t *testing.T) {
	for step := 1; step <= 130; step++ {
		b := behind(t, 100, 99, 97, 70, 38, 37, 100+step)
		for _, n := range mixed(sideBySide(0, 101+step), rand.New(rand.NewSource(int64(step)))) {
			b.wantCheck(t, n)
			b.wantTake(t, n)
			b.wantTake(t, n)
		}
		b.wantAll(t)
		if step < width && b.Next() != 101+step {
			t.Error(step, b.Next())
		}
	}
}

// P23: steps upwards, one upon the other, of each size.
func TestStepsUpwards(t *testing.T) {
	for step := 1; step <= 130; step++ {
		b := newBoth()
		for i := range 12 {
			b.wantTake(t, i*step)
			b.wantTake(t, max(0, i*step-(17*i)%70))
			b.wantAll(t)
		}
	}
}

// used answers windows that have some, and one that has none.
func used(t *testing.T) []both {
	t.Helper()
	return []both{
		newBoth(), behind(t, 0), behind(t, 5, 3), behind(t, 63), behind(t, 64, 1), behind(t, 70, 7, 69),
		behind(t, sideBySide(100, 200)...), behind(t, 1<<32, 1<<32-63), behind(t, most-1), behind(t, most), behind(t, 0, most, most-63),
	}
}

// P23, wrong inputs: numbers that none of a window's may be; nothing has changed
// behind them.
func TestWrong(t *testing.T) {
	for _, b := range used(t) {
		before := *b.Window
		for _, n := range wrongNumbers() {
			wantCheck(t, b.Window, n, api.ErrArg)
			wantTake(t, b.Window, n, api.ErrArg)
			wantCheck(t, b.Window, n, api.ErrArg)
			wantTake(t, b.Window, n, api.ErrArg)
			b.wantNext(t)
		}
		for i := range 63 {
			wantTake(t, b.Window, -1<<i, api.ErrArg)
			if i > 40 {
				wantTake(t, b.Window, 1<<i, api.ErrArg)
			}
			wantTake(t, b.Window, most+1<<i, api.ErrArg)
		}
		b.wantAll(t)
		if *b.Window != before {
			t.Errorf("%d became %d", before, *b.Window)
		}
	}
}

// P23, wrong inputs: a Take of what is old, by being taken or by being too low,
// changes nothing.
func TestOldChangesNothing(t *testing.T) {
	for _, b := range used(t) {
		before := *b.Window
		for _, n := range around(b.said.next()) {
			if b.said.check(n) != api.ErrOld {
				continue
			}
			wantTake(t, b.Window, n, api.ErrOld)
			wantTake(t, b.Window, n, api.ErrOld)
			b.wantNext(t)
			if *b.Window != before {
				t.Errorf("by %d %d became %d", n, before, *b.Window)
			}
		}
		b.wantAll(t)
	}
}

// P23: what is wrong on the way stops nothing: the next one is taken.
func TestGoesOn(t *testing.T) {
	b := newBoth()
	for i, n := range sideBySide(0, 300) {
		b.wantTake(t, wrongNumbers()[i%len(wrongNumbers())])
		b.wantTake(t, n)
		b.wantTake(t, n)
		b.wantTake(t, n-70)
	}
	b.wantAll(t)
	wantNext(t, b.Window, 300)
}

// P2: windows have nothing to do with each other, taken by turns and asked by
// turns, those that are made in between included.
func TestApart(t *testing.T) {
	one, other := newBoth(), newBoth()
	r := rand.New(rand.NewSource(51))
	for i := range 200 {
		one.wantTake(t, 2*i)
		other.wantTake(t, 1000000+r.Intn(300))
		one.wantAll(t)
		other.wantAll(t)
		newBoth().wantAll(t)
	}
	wantNext(t, one.Window, 399)
	wantTake(t, other.Window, 398, api.ErrOld)
	wantTake(t, one.Window, 1000000, api.OK)
	wantNext(t, New(), 0)
}

// P2: each answer of New is another window, that has none.
func TestNewEachTime(t *testing.T) {
	seen := map[*Window]bool{}
	for i := range 100 {
		w := New()
		if w == nil || seen[w] {
			t.Fatal("the same window once more", i)
		}
		seen[w] = true
		wantNext(t, w, 0)
		wantTake(t, w, 0, api.OK)
		wantTake(t, w, i+1, api.OK)
		wantTake(t, w, most, api.OK)
		behind(t).wantAll(t)
	}
	for w := range seen {
		wantNext(t, w, most+1)
	}
}

// P2: nothing is kept but in a Window: the same calls answer the same, at the
// same time as those of other windows.
func TestAnswersStay(t *testing.T) {
	old := behind(t, 70, 7)
	var group sync.WaitGroup
	for i := range 40 {
		group.Go(func() {
			b := newBoth()
			r := rand.New(rand.NewSource(int64(i % 3)))
			for range 100 {
				b.wantTake(t, r.Intn(200))
			}
			b.wantAll(t)
		})
	}
	group.Wait()
	old.wantAll(t)
}

// plain says whether values of a type are all there is of them: nothing in them
// leads elsewhere.
func plain(of reflect.Type) bool {
	switch of.Kind() {
	case reflect.Struct:
		for i := range of.NumField() {
			if !plain(of.Field(i).Type) {
				return false
			}
		}
		return true
	case reflect.Array:
		return plain(of.Elem())
	}
	return of.Kind() >= reflect.Bool && of.Kind() <= reflect.Float64
}

// P2: a Window keeps no more than it needs: a number, and which of 64 were taken.
func TestWindowIsSmall(t *testing.T) {
	of := reflect.TypeFor[Window]()
	if !plain(of) || of.Size() > 8+64 {
		t.Errorf("%s, of %d bytes", of, of.Size())
	}
}

// P1: also a Window that New didn't make answers, whatever it answers.
func TestWindowOfNobody(t *testing.T) {
	for _, n := range append(rightNumbers(), wrongNumbers()...) {
		var w Window
		w.Check(n)
		w.Take(n)
		w.Next()
		w.Take(n - 1)
		w.Take(n)
	}
}

// P1 and P23: whatever numbers come, of all sizes, they are answered as the
// chapter's words say.
func TestAnythingAnswers(t *testing.T) {
	r := rand.New(rand.NewSource(2315))
	for range 300 {
		b := newBoth()
		for range 60 {
			n := int(r.Uint64()) >> r.Intn(64)
			if r.Intn(3) > 0 {
				n = b.Next() + r.Intn(150) - 100
			}
			b.wantCheck(t, n)
			b.wantTake(t, n)
			b.wantNext(t)
			b.wantCheck(t, n)
		}
		b.wantAll(t)
	}
}

// P1 and P23 for whatever comes: each byte is how far from Next a number lies, or,
// if it is 0, 1 or 2, the first, the last or another one.
func FuzzAnything(f *testing.F) {
	f.Add(0, []byte{120, 120, 119, 255, 3})
	f.Add(70, []byte{2, 56, 57, 120, 121, 247})
	f.Add(most, []byte{1, 57, 56, 55, 2, 120, 0})
	for _, n := range append(rightNumbers(), wrongNumbers()...) {
		f.Add(n, []byte{120, 2, 119, 56, 57, 58, 2, 0, 184, 120, 1, 57})
	}
	f.Fuzz(func(t *testing.T, other int, list []byte) {
		b := newBoth()
		for _, c := range list[:min(len(list), 300)] {
			n := b.Next() + int(c) - 120
			if c < 3 {
				n = []int{0, most, other}[c]
			}
			b.wantCheck(t, n)
			b.wantTake(t, n)
			b.wantCheck(t, n)
			b.wantNext(t)
		}
		b.wantCheck(t, other)
		b.wantAll(t)
	})
}
