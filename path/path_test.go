package path_test

import (
	"strings"
	"testing"

	"packtrain/api"
	"packtrain/path"
)

// The chapter's examples.
func TestExamples(t *testing.T) {
	if folder, base := path.Split("a/b.txt"); folder != "a" || base != "b.txt" {
		t.Errorf("Split: %q, %q", folder, base)
	}
	if stem, ending := path.Ending("a/b.txt"); stem != "b" || ending != ".txt" {
		t.Errorf("Ending: %q, %q", stem, ending)
	}
	checkCopy(t, "a/b.txt", 2, 0, "a/b.c2-0.txt", api.OK)
	checkCopy(t, "b", 3, 12, "b.c3-12", api.OK)
	checkCopied(t, "b.c3-12", original{"b", 3, 12})
	checkCopied(t, "b.c3", original{})
	for _, s := range []string{"a//b", ".a", "../a"} {
		if e := path.Check(s); e != api.ErrArg {
			t.Errorf("Check(%q): %d", s, e)
		}
	}
}

// P3.1: Check and Name, of all samples.
func TestCheckAndName(t *testing.T) {
	good := 0
	for _, s := range samples() {
		want := api.ErrArg
		if len(s) > api.MaxPath {
			want = api.ErrLong
		} else if isPath(s) {
			want = api.OK
			good++
		}
		if e := path.Check(s); e != want {
			t.Errorf("Check(%.80q): %d, not %d", s, e, want)
		}
		if ok := path.Name(s); ok != aName.MatchString(s) {
			t.Errorf("Name(%.80q): %t", s, ok)
		}
	}
	if good < 5000 {
		t.Errorf("only %d of the samples are paths", good)
	}
}

// P3.1: Check, at the limits that the chapter names, written out.
func TestCheckLimits(t *testing.T) {
	whole := strings.Repeat("a", 24)
	for s, want := range map[string]api.Errno{
		"a/b/c/d":   api.OK,
		"a/b/c/d/e": api.ErrArg,
		whole:       api.OK,
		whole + "a": api.ErrArg,
		whole + "/" + whole + "/" + "bcdefghijklmno":  api.OK, // 64 bytes
		whole + "/" + whole + "/" + "bcdefghijklmnop": api.ErrLong,
		strings.Repeat("A", 64):                       api.ErrArg,
		strings.Repeat("A", 65):                       api.ErrLong, // before ErrArg
		strings.Repeat("/", 65):                       api.ErrLong,
		"":                                            api.ErrArg,
		"a.":                                          api.OK,
		"-/_/0/9..":                                   api.OK,
	} {
		if e := path.Check(s); e != want {
			t.Errorf("Check(%q): %d, not %d", s, e, want)
		}
	}
}

// P3.1: each byte, at the beginning of a name and behind it.
func TestBytesOfNames(t *testing.T) {
	const first = "abcdefghijklmnopqrstuvwxyz0123456789-_"
	for c := range 256 {
		b := string([]byte{byte(c)})
		inFirst := strings.Contains(first, b)
		for s, want := range map[string]bool{
			b: inFirst, b + "a": inFirst, "a" + b: inFirst || b == ".", "a" + b + "a": inFirst || b == ".",
		} {
			if path.Name(s) != want {
				t.Errorf("Name(%q): %t", s, !want)
			}
			for _, p := range []string{s, "a/" + s, s + "/a"} {
				ok := want || b == "/" && strings.Trim(p, "/") == p && !strings.Contains(p, "//")
				if (path.Check(p) == api.OK) != ok {
					t.Errorf("Check(%q): %d", p, path.Check(p))
				}
			}
		}
	}
}

// P3.1: Split and Ending, and P3.3: what was split is the path.
func TestSplitAndEnding(t *testing.T) {
	for _, s := range samples() {
		folder, base := path.Split(s)
		stem, ending := path.Ending(s)
		if !isPath(s) {
			if folder+base+stem+ending != "" {
				t.Errorf("Split(%.80q): %q, %q; Ending: %q, %q", s, folder, base, stem, ending)
			}
			continue
		}
		wantFolder, wantStem, wantEnding := cut(s)
		if stem != wantStem || ending != wantEnding {
			t.Errorf("Ending(%q): %q, %q", s, stem, ending)
		}
		if folder != strings.TrimSuffix(wantFolder, "/") || base != wantStem+wantEnding {
			t.Errorf("Split(%q): %q, %q", s, folder, base)
		}
		if strings.TrimPrefix(folder+"/"+base, "/") != s {
			t.Errorf("Split(%q) has another path: %q, %q", s, folder, base)
		}
	}
}

// P3.1: Split and Ending, written out.
func TestSplitAndEndingWrittenOut(t *testing.T) {
	for _, c := range [][5]string{
		{"a", "", "a", "a", ""},
		{"a.", "", "a.", "a", "."},
		{"a..", "", "a..", "a.", "."},
		{"a.b.c", "", "a.b.c", "a.b", ".c"},
		{"a.b/c", "a.b", "c", "c", ""},
		{"a/b/c.d/e.f.g", "a/b/c.d", "e.f.g", "e.f", ".g"},
		{"a/", "", "", "", ""},
		{"/a", "", "", "", ""},
		{".txt", "", "", "", ""},
		{"a/.txt", "", "", "", ""},
		{".tmp/a.txt", "", "", "", ""},
		{strings.Repeat("a", 25), "", "", "", ""},
	} {
		folder, base := path.Split(c[0])
		stem, ending := path.Ending(c[0])
		if got := [5]string{c[0], folder, base, stem, ending}; got != c {
			t.Errorf("%q, not %q", got, c)
		}
	}
}

// P3.1: Within, of pairs of samples.
func TestWithin(t *testing.T) {
	all := append(edges(), "a/b/cd", "a/bc", "ab/c", "a.b/c/d", "b/a", "b/a/b")
	for _, folder := range all {
		for _, s := range all {
			want := isPath(s) && (folder == "" || isPath(folder) && strings.HasPrefix(s, folder+"/"))
			if got := path.Within(folder, s); got != want {
				t.Errorf("Within(%.80q, %.80q): %t", folder, s, got)
			}
		}
	}
}

// P3.1: Within, written out.
func TestWithinWrittenOut(t *testing.T) {
	for c, want := range map[[2]string]bool{
		{"", "a"}:          true,
		{"", "a/b"}:        true,
		{"", ""}:           false,
		{"", "/a"}:         false,
		{"", ".tmp/a"}:     false,
		{"a", "a/b"}:       true,
		{"a", "a/b/c/d"}:   true,
		{"a/b", "a/b/c"}:   true,
		{"a/b", "a/bc"}:    false,
		{"a", "a"}:         false,
		{"a", "ab"}:        false,
		{"a", "b/a/c"}:     false,
		{"a/", "a/b"}:      false,
		{"/", "a"}:         false,
		{"a", "a//b"}:      false,
		{"a", "a/.b"}:      false,
		{"a/b", "a"}:       false,
		{".tmp", ".tmp/a"}: false,
		{"a", ""}:          false,
	} {
		if path.Within(c[0], c[1]) != want {
			t.Errorf("Within(%q, %q) is not %t", c[0], c[1], want)
		}
	}
}

// Rule 3: results are not parts of the arguments.
func TestResultsAreNewMemory(t *testing.T) {
	for _, s := range []string{"a", "a.b", "folder/base.txt", "b.c3-12", "a/b.c3-12", "b.c3-12.txt", ".tmp/a", ".tmp/a/b"} {
		folder, base := path.Split(s)
		checkOwn(t, "Split", folder, s)
		checkOwn(t, "Split", base, s)
		stem, ending := path.Ending(s)
		checkOwn(t, "Ending", stem, s)
		checkOwn(t, "Ending", ending, s)
		copied, _, _, _ := path.Copied(s)
		checkOwn(t, "Copied", copied, s)
		temped, _ := path.Temped(s)
		checkOwn(t, "Temped", temped, s)
	}
}
