package dog

import (
	"fmt"
	"math"
	"slices"
	"strings"
	"testing"

	"postilion/api"
)

// step is a call of a watchdog: A(rm), K(ick), O(ff) or T(ick), with its number of ticks.
type step struct {
	call byte
	n    int
}

// arm, kick, off and tick are such calls.
func arm(n int) step  { return step{'A', n} }
func kick() step      { return step{'K', 0} }
func off() step       { return step{'O', 0} }
func tick(n int) step { return step{'T', n} }

// String is the call as a text.
func (s step) String() string { return fmt.Sprintf("%c(%d)", s.call, s.n) }

// do calls a watchdog; whether it barks.
func do(d *Dog, s step) bool {
	switch s.call {
	case 'A':
		d.Arm(s.n)
	case 'K':
		d.Kick()
	case 'O':
		d.Off()
	case 'T':
		return d.Tick(s.n)
	}
	return false
}

// after is a watchdog that was called so, and how often it barked.
func after(l ...step) (*Dog, int) {
	d, barks := &Dog{}, 0
	for _, s := range l {
		if do(d, s) {
			barks++
		}
	}
	return d, barks
}

// slow tells what a list of calls leads to from the list alone: whether the last one barks, and how many ticks are left. Of each Tick it lets single ticks go by.
func slow(l []step) (barks bool, left int) {
	awake, said, gone := false, 0, 0
	for _, s := range l {
		barks = false
		switch s.call {
		case 'A':
			awake, said, gone = s.n >= 1, s.n, 0
		case 'K':
			gone = 0
		case 'O':
			awake = false
		case 'T':
			for i := 0; i < s.n && awake; i++ {
				gone++
				if gone == said {
					awake, barks = false, true
				}
			}
		}
	}
	if !awake {
		return barks, 0
	}
	return barks, said - gone
}

// numbers are numbers of ticks: ordinary ones, edges, and wrong ones.
func numbers() []int {
	return []int{math.MinInt, math.MinInt + 1, -1 << 32, -10, -2, -1, 0, 1, 2, 3, 9, api.Patience, 11, 1 << 31, 1 << 32, 1<<32 + 1, 1 << 62, api.MaxInt - 1, api.MaxInt}
}

func TestExample(t *testing.T) {
	d := &Dog{}
	d.Arm(3)
	if d.Tick(2) {
		t.Error("it barks after two ticks")
	}
	d.Kick()
	if d.Tick(2) || d.Left() != 1 {
		t.Errorf("%d ticks are left", d.Left())
	}
}

func TestDo1Arm(t *testing.T) {
	for _, before := range [][]step{nil, {arm(5)}, {arm(5), tick(2)}, {arm(5), tick(5)}, {arm(5), off()}, {arm(api.MaxInt)}, {arm(-1)}} {
		for _, n := range numbers() {
			d, _ := after(append(slices.Clone(before), arm(n))...)
			if d.Left() != max(n, 0) {
				t.Errorf("%v, then Arm(%d): %d ticks are left", before, n, d.Left())
			}
			if n < 1 {
				d.Kick()
				if d.Left() != 0 || d.Tick(api.MaxInt) {
					t.Errorf("%v, then Arm(%d): it is not asleep", before, n)
				}
			}
		}
	}
}

func TestDo1Kick(t *testing.T) {
	for k, x := range []struct {
		l    []step
		want int
	}{
		{[]step{kick()}, 0},
		{[]step{arm(5), kick()}, 5},
		{[]step{arm(5), tick(4), kick()}, 5},
		{[]step{arm(5), tick(4), kick(), kick(), tick(3)}, 2},
		{[]step{arm(5), tick(2), kick(), tick(4), kick()}, 5},
		{[]step{arm(5), arm(3), tick(1), kick()}, 3},
		{[]step{arm(3), tick(1), arm(5), tick(1), kick()}, 5},
		{[]step{arm(api.MaxInt), tick(api.MaxInt - 1), kick()}, api.MaxInt},
		{[]step{arm(5), tick(5), kick()}, 0},
		{[]step{arm(5), tick(9), kick()}, 0},
		{[]step{arm(5), off(), kick()}, 0},
		{[]step{arm(5), arm(0), kick()}, 0},
		{[]step{arm(5), arm(-7), kick()}, 0},
		{[]step{arm(5), tick(5), kick(), arm(2), kick()}, 2},
	} {
		if d, _ := after(x.l...); d.Left() != x.want {
			t.Errorf("case %d, %v: %d ticks are left, not %d", k, x.l, d.Left(), x.want)
		}
	}
}

func TestDo1Off(t *testing.T) {
	for _, before := range [][]step{nil, {arm(5)}, {arm(5), tick(4)}, {arm(5), tick(5)}, {arm(5), off()}, {arm(5), tick(1), kick()}, {arm(0)}} {
		d, _ := after(append(slices.Clone(before), off())...)
		for range 2 {
			if d.Left() != 0 || d.Tick(1) || d.Tick(5) || d.Tick(api.MaxInt) || d.Left() != 0 {
				t.Errorf("%v, then Off: it is not asleep", before)
			}
			d.Kick()
		}
		d.Arm(2)
		if d.Left() != 2 || d.Tick(1) || !d.Tick(1) {
			t.Errorf("%v, then Off, then Arm(2): it does not bark after two ticks", before)
		}
	}
}

func TestDo1Tick(t *testing.T) {
	for _, n := range numbers() {
		for _, ticks := range numbers() {
			d, _ := after(arm(n))
			barks, left := d.Tick(ticks), d.Left()
			switch {
			case n < 1:
				if barks || left != 0 {
					t.Errorf("asleep, Tick(%d): %v, %d", ticks, barks, left)
				}
			case ticks < 1:
				if barks || left != n {
					t.Errorf("Arm(%d), Tick(%d): %v, %d", n, ticks, barks, left)
				}
			case ticks >= n:
				if !barks || left != 0 || d.Tick(1) || d.Tick(api.MaxInt) {
					t.Errorf("Arm(%d), Tick(%d): %v, %d", n, ticks, barks, left)
				}
			default:
				if barks || left != n-ticks {
					t.Errorf("Arm(%d), Tick(%d): %v, %d", n, ticks, barks, left)
				}
			}
		}
	}
}

// What is left counts, not what was armed.
func TestDo1TickOfWhatIsLeft(t *testing.T) {
	for k, x := range []struct {
		l     []step
		barks int
		left  int
	}{
		{[]step{arm(5), tick(2), tick(2)}, 0, 1},
		{[]step{arm(5), tick(2), tick(3)}, 1, 0},
		{[]step{arm(5), tick(2), tick(2), tick(1)}, 1, 0},
		{[]step{arm(5), tick(4), tick(-1 << 40), tick(0)}, 0, 1},
		{[]step{arm(5), tick(math.MinInt), tick(4)}, 0, 1},
		{[]step{arm(1), tick(0)}, 0, 1},
		{[]step{arm(1), tick(1)}, 1, 0},
		{[]step{arm(api.MaxInt), tick(api.MaxInt - 1)}, 0, 1},
		{[]step{arm(api.MaxInt), tick(1 << 62), tick(1<<62 - 2)}, 0, 1},
		{[]step{arm(api.MaxInt), tick(1 << 62), tick(1<<62 - 1)}, 1, 0},
		{[]step{arm(api.MaxInt), tick(1 << 62), tick(api.MaxInt)}, 1, 0},
		{[]step{arm(10), tick(9), arm(3), tick(2)}, 0, 1},
		{[]step{arm(10), tick(10), tick(10), arm(3), tick(3), tick(3)}, 2, 0},
		{[]step{tick(1), tick(api.MaxInt)}, 0, 0},
	} {
		d, barks := after(x.l...)
		if barks != x.barks || d.Left() != x.left {
			t.Errorf("case %d, %v: it barks %d times, %d ticks are left", k, x.l, barks, d.Left())
		}
	}
}

// Left has no effect, and a watchdog no part of another one.
func TestDo1Left(t *testing.T) {
	d, other := &Dog{}, &Dog{}
	d.Arm(4)
	for range 10 {
		if d.Left() != 4 || other.Left() != 0 {
			t.Fatalf("%d and %d ticks are left", d.Left(), other.Left())
		}
	}
	other.Arm(2)
	if d.Tick(3) || other.Left() != 2 || !other.Tick(2) || d.Left() != 1 {
		t.Errorf("%d and %d ticks are left", d.Left(), other.Left())
	}
}

// A zero watchdog is asleep, and can be armed, whichever way it came about.
func TestDo1Zero(t *testing.T) {
	var zero Dog
	for k, d := range []*Dog{&zero, new(Dog), {}} {
		for _, n := range numbers() {
			d.Kick()
			d.Off()
			if d.Tick(n) || d.Left() != 0 {
				t.Errorf("case %d: it is not asleep", k)
			}
		}
		d.Arm(2)
		if d.Left() != 2 || d.Tick(1) || !d.Tick(1) {
			t.Errorf("case %d: it does not bark after two ticks", k)
		}
	}
}

func TestDo1Nil(t *testing.T) {
	var d *Dog
	for _, n := range numbers() {
		d.Arm(n)
		d.Kick()
		if d.Left() != 0 || d.Tick(n) || d.Tick(api.MaxInt) || d.Left() != 0 {
			t.Errorf("Arm(%d): it is not asleep", n)
		}
		d.Off()
	}
}

// All lists of some calls, beside what is told of them tick by tick.
func TestDo1AllLists(t *testing.T) {
	calls := []step{arm(-1), arm(0), arm(1), arm(3), kick(), off(), tick(-1), tick(0), tick(1), tick(2), tick(4)}
	var grow func(l []step)
	grow = func(l []step) {
		d, _ := after(l[:max(len(l)-1, 0)]...)
		barks := len(l) > 0 && do(d, l[len(l)-1])
		want, left := slow(l)
		if barks != want || d.Left() != left {
			t.Errorf("%v: %v and %d, not %v and %d", l, barks, d.Left(), want, left)
		}
		if len(l) == 5 {
			return
		}
		for _, s := range calls {
			grow(append(l, s))
		}
	}
	grow(make([]step, 0, 5))
}

// split is n as numbers that are at least 1, one list for each way in which it can be told by them.
func split(n int) [][]int {
	if n == 0 {
		return [][]int{nil}
	}
	var l [][]int
	for first := 1; first <= n; first++ {
		for _, rest := range split(n - first) {
			l = append(l, append([]int{first}, rest...))
		}
	}
	return l
}

// Kicked at the latest before its last tick, it never barks, however the ticks between come.
func TestDo2KickedInTime(t *testing.T) {
	for n := 1; n <= 9; n++ {
		d, _ := after(arm(n))
		for gone := range n {
			for _, l := range split(gone) {
				for _, ticks := range l {
					if d.Tick(ticks) {
						t.Fatalf("Arm(%d): it barks within %v", n, l)
					}
				}
				if d.Left() != n-gone {
					t.Fatalf("Arm(%d): %d ticks are left after %v", n, d.Left(), l)
				}
				d.Kick()
			}
		}
	}
	for _, n := range []int{2, api.Patience, 1 << 32, api.MaxInt} {
		d, _ := after(arm(n))
		for range 10000 {
			if d.Tick(n - 1) {
				t.Fatalf("Arm(%d): it barks", n)
			}
			d.Kick()
		}
		if d.Left() != n {
			t.Errorf("Arm(%d): %d ticks are left", n, d.Left())
		}
	}
}

// Not kicked in time, it barks within the tick that it was armed for, and never again, whatever comes but Arm.
func TestDo2NotKickedInTime(t *testing.T) {
	later := []step{tick(1), kick(), tick(1), tick(api.MaxInt), off(), kick(), tick(api.Patience), kick(), kick(), tick(1 << 62)}
	for n := 1; n <= 9; n++ {
		for _, l := range split(n) {
			for _, over := range []int{0, 1, n, 1 << 40} {
				calls := []step{arm(n), tick(n - 1), kick()}
				for _, ticks := range l {
					calls = append(calls, tick(ticks))
				}
				calls[len(calls)-1].n += over
				if _, barks := after(calls[:len(calls)-1]...); barks != 0 {
					t.Fatalf("%v: it barks too early", calls)
				}
				if _, barks := after(calls...); barks != 1 {
					t.Fatalf("%v: it barks %d times", calls, barks)
				}
				if d, barks := after(append(calls, later...)...); barks != 1 || d.Left() != 0 {
					t.Fatalf("%v: it barks %d times in all", calls, barks)
				}
			}
		}
	}
}

// Long runs: it barks where the ticks since the last Arm or Kick reach what was armed, once for each Arm at most.
func TestDo2LongRuns(t *testing.T) {
	for seed := range 50 {
		var told strings.Builder
		d, x := &Dog{}, uint32(seed*2654435761+1)
		awake, said, gone, arms, barks := false, 0, 0, 0, 0
		for range 2000 {
			x = x*1664525 + 1013904223
			n, s := int(x>>20%8), kick()
			switch x >> 28 {
			case 0:
				s = arm(n + 1)
				awake, said, gone, arms = true, n+1, 0, arms+1
			case 1, 2, 3:
				gone = 0
			case 4:
				if n == 0 {
					s, awake = off(), false
				}
				gone = 0
			default:
				s, gone = tick(n), gone+n
			}
			want := awake && gone >= said
			fmt.Fprint(&told, s, " ")
			if do(d, s) != want {
				t.Fatalf("%s: it should bark: %v", told.String(), want)
			}
			if want {
				awake, barks = false, barks+1
			}
		}
		if arms == 0 || barks == 0 || barks > arms {
			t.Errorf("run %d: it barks %d times, and is armed %d times", seed, barks, arms)
		}
	}
}
