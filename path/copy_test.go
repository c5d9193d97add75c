package path_test

import (
	"math"
	"strings"
	"testing"

	"packtrain/api"
	"packtrain/path"
)

// P3.2 and P3.3: Copy and back, for each device and each number.
func TestCopyAndBack(t *testing.T) {
	for _, s := range []string{"b", "a/b.txt", "a.b/c", "b.c1-1", "b.c1-1.txt", "b.", "a/b/c/d..e"} {
		for device := 1; device <= 99; device++ {
			for number := range 1000 {
				want := copyOf(s, device, number)
				checkCopy(t, s, device, number, want, api.OK)
				checkCopied(t, want, original{s, device, number})
			}
		}
	}
}

// P3.2: Copy, written out.
func TestCopyWrittenOut(t *testing.T) {
	for _, c := range []struct {
		s              string
		device, number int
		want           string
	}{
		{"b", 1, 0, "b.c1-0"},
		{"b", 99, 999, "b.c99-999"},
		{"b.", 1, 10, "b.c1-10."},
		{"b..", 1, 0, "b..c1-0."},
		{"a.b/c", 10, 5, "a.b/c.c10-5"},
		{"a.b/c.d.e", 7, 100, "a.b/c.d.c7-100.e"},
		{"b.c1-0", 1, 0, "b.c1-0.c1-0"},
		{"b.c1-0", 2, 3, "b.c2-3.c1-0"},
		{"b.c1-0.txt", 2, 3, "b.c1-0.c2-3.txt"},
	} {
		checkCopy(t, c.s, c.device, c.number, c.want, api.OK)
		checkCopied(t, c.want, original{c.s, c.device, c.number})
	}
}

// P3.2 and P3.3: Copy and back, for all samples that are paths.
func TestCopyOfPaths(t *testing.T) {
	long := 0
	for _, s := range paths() {
		for _, o := range []original{{s, 1, 0}, {s, 9, 9}, {s, 10, 10}, {s, 16, 99}, {s, 99, 100}, {s, 99, 999}} {
			want := copyOf(o.path, o.device, o.number)
			if !isPath(want) {
				checkCopy(t, o.path, o.device, o.number, "", api.ErrLong)
				long++
				continue
			}
			checkCopy(t, o.path, o.device, o.number, want, api.OK)
			checkCopied(t, want, o)
		}
	}
	if long == 0 {
		t.Error("no copy was too long")
	}
}

// P3.2: the errors of Copy, in their order.
func TestCopyErrors(t *testing.T) {
	for _, s := range edges() {
		if e := path.Check(s); e != api.OK {
			for _, device := range []int{-1, 0, 1, 99, 100} {
				checkCopy(t, s, device, 0, "", e)
				checkCopy(t, s, 1, device-1, "", e)
			}
		}
	}
	whole := strings.Repeat("a", 24)
	for _, s := range []string{"a", "a/b.txt", whole} {
		for _, device := range []int{math.MinInt, -1, 0, 100, 101, 1 << 32, 1<<32 + 1, math.MaxInt} {
			checkCopy(t, s, device, 0, "", api.ErrArg)
		}
		for _, number := range []int{math.MinInt, -1, 1000, 1001, 1 << 32, math.MaxInt} {
			checkCopy(t, s, 1, number, "", api.ErrArg)
		}
	}
}

// P3.2: a copy whose name, or the whole of which, is as long as it may be, and
// longer.
func TestCopyLimits(t *testing.T) {
	whole := strings.Repeat("a", 24)
	checkCopy(t, whole[:19], 1, 0, whole[:19]+".c1-0", api.OK)
	checkCopy(t, whole[:20], 1, 0, "", api.ErrLong)
	checkCopy(t, whole[:19], 10, 0, "", api.ErrLong)
	checkCopy(t, whole[:19], 1, 10, "", api.ErrLong)
	checkCopy(t, whole[:16], 99, 999, whole[:16]+".c99-999", api.OK)
	checkCopy(t, whole[:12]+".txt", 99, 999, whole[:12]+".c99-999.txt", api.OK)
	checkCopy(t, whole[:13]+".txt", 99, 999, "", api.ErrLong)
	folder := whole + "/" + whole + "/"
	checkCopy(t, folder+"bcdefghij", 1, 0, folder+"bcdefghij.c1-0", api.OK) // 64 bytes
	checkCopy(t, folder+"bcdefghijk", 1, 0, "", api.ErrLong)
	checkCopy(t, folder+"bcdefghij", 1, 10, "", api.ErrLong)
	checkCopy(t, whole+"/"+whole[:19], 1, 0, whole+"/"+whole[:19]+".c1-0", api.OK)
	checkCopy(t, whole, 1, 0, "", api.ErrLong)
}

// P3.2: Copied of all samples: there is at most one of whose copy s is the
// path, and it is found.
func TestCopiedOfSamples(t *testing.T) {
	recognized := 0
	for _, s := range samples() {
		found := originals(s)
		switch len(found) {
		case 0:
			checkCopied(t, s, original{})
		case 1:
			checkCopied(t, s, found[0])
			checkCopy(t, found[0].path, found[0].device, found[0].number, s, api.OK)
			recognized++
		default:
			t.Errorf("%q is the copy of %v", s, found)
		}
	}
	if recognized < 500 {
		t.Errorf("only %d of the samples are recognized", recognized)
	}
}

// P3.2: Copied, written out.
func TestCopiedWrittenOut(t *testing.T) {
	for s, want := range map[string]original{
		"b.c1-2.c3-4":             {"b.c3-4", 1, 2},
		"b.c1-2.c3-4.c5-6":        {"b.c1-2.c5-6", 3, 4},
		"b.c1-2.c3":               {"b.c3", 1, 2},
		"b.c1-2.":                 {"b.", 1, 2},
		"a.c1-2/b.c3-4":           {"a.c1-2/b", 3, 4},
		"c.c1-0":                  {"c", 1, 0},
		"-.c1-0":                  {"-", 1, 0},
		"a/b/c/d.c99-999.e":       {"a/b/c/d.e", 99, 999},
		"b":                       {},
		"b.txt":                   {},
		"a.c1-2/b":                {},
		"a.b.c3-4":                {}, // the copy of a.b is a.c3-4.b
		"b.c3.c1-2":               {}, // and that of b.c3 b.c1-2.c3
		".c1-2":                   {},
		".c1-2.txt":               {},
		"a/.c1-2":                 {},
		"b.c0-1":                  {},
		"b.c00-1":                 {},
		"b.c01-1":                 {},
		"b.c1-01":                 {},
		"b.c1-00":                 {},
		"b.c100-1":                {},
		"b.c1-1000":               {},
		"b.c1-1000.txt":           {},
		"b.c-1":                   {},
		"b.c1-":                   {},
		"b.c1--1":                 {},
		"b.c1-1-1":                {},
		"b.c1-1x":                 {},
		"b.c1-1x.c":               {},
		"b.C1-1":                  {},
		"b.c1-1/":                 {},
		".tmp/b.c1-1":             {},
		"b.c1-1.txt.old":          {},
		"b.c18446744073709551617": {},
		"":                        {},
	} {
		checkCopied(t, s, want)
	}
}

// P3.2: what has the form of a copy, but is no path.
func TestCopiedOfNoPath(t *testing.T) {
	for _, s := range []string{
		strings.Repeat("a", 20) + ".c1-0",
		"a/b/c/d/e.c1-0",
		"a//b.c1-0",
		"A.c1-0",
		"a.c1-0\n",
		strings.Repeat("a/", 1000) + "b.c1-0",
	} {
		checkCopied(t, s, original{})
	}
}
