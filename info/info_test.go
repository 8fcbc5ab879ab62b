package info_test

import (
	"fmt"
	"math"
	"net/url"
	"regexp"
	"strings"
	"testing"
	"time"

	"ragpicker/api"
	"ragpicker/info"
)

const (
	// last is api.LastSecond, written out.
	last = 253402300799
	// plain are the bytes that stand for themselves in an encoded path.
	plain = "ABCDEFGHIJKLMNOPQRSTUVWXYZabcdefghijklmnopqrstuvwxyz0123456789-._~/"
	// begin is the group's first line.
	begin = "[Trash Info]\n"
	// day is a date, and noon its second.
	day  = "2000-02-29T12:00:00"
	noon = 951825600
)

var (
	// sides is what is removed from a line, and inner what is removed from a key and a value, by another means than the program's.
	sides = regexp.MustCompile(`\A[ \t\r]+|[ \t\r]+\z`)
	inner = regexp.MustCompile(`\A[ \t]+|[ \t]+\z`)
	// form is a date's.
	form = regexp.MustCompile(`\A[0-9]{4}-[0-9]{2}-[0-9]{2}T[0-9]{2}:[0-9]{2}:[0-9]{2}\z`)
)

// wantPath is a path with percent signs.
func wantPath(path string) string {
	var b strings.Builder
	for i := range len(path) {
		if strings.IndexByte(plain, path[i]) >= 0 {
			b.WriteByte(path[i])
		} else {
			fmt.Fprintf(&b, "%%%02X", path[i])
		}
	}
	return b.String()
}

// wantWrite is Write told by packages time and fmt.
func wantWrite(path string, sec int) (string, api.Errno) {
	switch {
	case len(path) == 0 || strings.IndexByte(path, 0) >= 0:
		return "", api.ErrArg
	case sec < 0 || sec > last:
		return "", api.ErrRange
	}
	return fmt.Sprintf("[Trash Info]\nPath=%s\nDeletionDate=%s\n", wantPath(path), time.Unix(int64(sec), 0).UTC().Format("2006-01-02T15:04:05")), api.OK
}

// wantDate is the time that a value tells, by package time.
func wantDate(value string) int {
	t, err := time.Parse("2006-01-02T15:04:05", value)
	if err != nil || !form.MatchString(value) || t.Unix() < 0 {
		return -1
	}
	return int(t.Unix())
}

// wantLines are the lines of a text that are not ignored.
func wantLines(s string) []string {
	var l []string
	for _, line := range strings.Split(s, "\n") {
		line = sides.ReplaceAllString(line, "")
		if line != "" && line[0] != '#' {
			l = append(l, line)
		}
	}
	return l
}

// wantKeys are the first values of all keys of the group.
func wantKeys(group []string) map[string]string {
	keys := map[string]string{}
	for _, line := range group {
		if line[0] == '[' {
			break
		}
		at := strings.IndexByte(line, '=')
		if at < 0 {
			continue
		}
		key := inner.ReplaceAllString(line[:at], "")
		if _, ok := keys[key]; !ok {
			keys[key] = inner.ReplaceAllString(line[at+1:], "")
		}
	}
	return keys
}

// wantParse is Parse told by regular expressions, a map of all keys, and packages net/url and time.
func wantParse(s string) (string, int, api.Errno) {
	l := wantLines(s)
	if len(l) == 0 || l[0] != "[Trash Info]" {
		return "", 0, api.ErrForm
	}
	keys := wantKeys(l[1:])
	value, ok := keys["Path"]
	path, err := url.PathUnescape(value)
	if !ok || err != nil || path == "" || strings.IndexByte(path, 0) >= 0 {
		return "", 0, api.ErrForm
	}
	return path, wantDate(keys["DeletionDate"]), api.OK
}

// written holds the answer of Write against what P6.1 says of it.
func written(t *testing.T, path string, sec int) {
	t.Helper()
	got, e := info.Write(path, sec)
	if want, why := wantWrite(path, sec); got != want || e != why {
		t.Errorf("Write(%.20q, %d), %d bytes, = %.60q, %d, want %.60q, %d", path, sec, len(path), got, e, want, why)
	}
}

// parsed holds the answer of Parse against what P6.2 says of it.
func parsed(t *testing.T, s string) {
	t.Helper()
	path, sec, e := info.Parse(s)
	if want, when, why := wantParse(s); path != want || sec != when || e != why {
		t.Errorf("Parse(%.90q), %d bytes, = %.40q, %d, %d, want %.40q, %d, %d", s, len(s), path, sec, e, want, when, why)
	}
}

// follows holds Parse of what Write answers against what Write was given.
func follows(t *testing.T, path string, sec int) {
	t.Helper()
	s, e := info.Write(path, sec)
	if e != api.OK {
		t.Errorf("Write(%.20q, %d) returns %d", path, sec, e)
	}
	if got, when, e := info.Parse(s); got != path || when != sec || e != api.OK {
		t.Errorf("Parse(Write(%.20q, %d)), %d bytes, = %.20q, %d, %d", path, sec, len(path), got, when, e)
	}
}

// rows are all lists of at most most of what is given, each of them joined by join.
func rows(most int, of []string, join string) []string {
	l := append([]string{""}, of...)
	for from := 1; most > 1; most-- {
		to := len(l)
		for _, s := range l[from:to] {
			for _, more := range of {
				l = append(l, s+join+more)
			}
		}
		from = to
	}
	return l
}

// paths are ones that Write takes, whatever the limits of paths are.
func paths() []string {
	l := []string{
		"a", "/", ".", "..", "/a/b", "a b", " ", " a", "a ", "\t", "\n", "\r", "\r\n", "/a\n", "\n/a", "/a\nPath=/b\n", "/a\n[x]\n", "[Trash Info]", "[", "#", "#a", "=", "=a", "a=b",
		"%", "%%", "%41", "%00", "100%", "Path", "Path=x", "DeletionDate=" + day, "é", "\x7f", "\x80", "\xff", "\xc3", "/\xa9", "\ufeffa", "/hut/my file~", "+", "a+b", "\"", "\\n", "\x01",
		strings.Repeat("a", 5000), strings.Repeat("/a b", 1<<16), strings.Repeat("\n", 1<<16), strings.Repeat("\xff", 1<<16),
	}
	for b := 1; b < 256; b++ {
		c := string([]byte{byte(b)})
		l = append(l, c, "a"+c, c+"a", "/a"+c+"b")
	}
	return l
}

// P6.1: what Write answers.
func TestWrite(t *testing.T) {
	for _, c := range []struct {
		path string
		sec  int
		want string
	}{
		{"/a b", 0, "[Trash Info]\nPath=/a%20b\nDeletionDate=1970-01-01T00:00:00\n"},
		{"/a b", 9, "[Trash Info]\nPath=/a%20b\nDeletionDate=1970-01-01T00:00:09\n"},
		{"x", 1, "[Trash Info]\nPath=x\nDeletionDate=1970-01-01T00:00:01\n"},
		{"/", noon, "[Trash Info]\nPath=/\nDeletionDate=2000-02-29T12:00:00\n"},
		{"/x", last, "[Trash Info]\nPath=/x\nDeletionDate=9999-12-31T23:59:59\n"},
		{"/x", last - 1, "[Trash Info]\nPath=/x\nDeletionDate=9999-12-31T23:59:58\n"},
		{"a\nb", 0, "[Trash Info]\nPath=a%0Ab\nDeletionDate=1970-01-01T00:00:00\n"},
		{"\n", 0, "[Trash Info]\nPath=%0A\nDeletionDate=1970-01-01T00:00:00\n"},
		{"%", 0, "[Trash Info]\nPath=%25\nDeletionDate=1970-01-01T00:00:00\n"},
		{"%00", 0, "[Trash Info]\nPath=%2500\nDeletionDate=1970-01-01T00:00:00\n"},
		{" ", 0, "[Trash Info]\nPath=%20\nDeletionDate=1970-01-01T00:00:00\n"},
		{" a\t", 0, "[Trash Info]\nPath=%20a%09\nDeletionDate=1970-01-01T00:00:00\n"},
		{"é", 0, "[Trash Info]\nPath=%C3%A9\nDeletionDate=1970-01-01T00:00:00\n"},
		{"\x80\xff", 0, "[Trash Info]\nPath=%80%FF\nDeletionDate=1970-01-01T00:00:00\n"},
		{"a=b#c[d]", 0, "[Trash Info]\nPath=a%3Db%23c%5Bd%5D\nDeletionDate=1970-01-01T00:00:00\n"},
		// It need not be a path by chapter 2, nor a clean one.
		{"..//a/", 0, "[Trash Info]\nPath=..//a/\nDeletionDate=1970-01-01T00:00:00\n"},
		{strings.Repeat("a", api.MaxPath+1), 0, "[Trash Info]\nPath=" + strings.Repeat("a", api.MaxPath+1) + "\nDeletionDate=1970-01-01T00:00:00\n"},
	} {
		if got, e := info.Write(c.path, c.sec); got != c.want || e != api.OK {
			t.Errorf("Write(%.20q, %d) = %.90q, %d, want %.90q", c.path, c.sec, got, e, c.want)
		}
	}
	for _, path := range paths() {
		for _, sec := range []int{0, 1, noon, last, -1, last + 1} {
			written(t, path, sec)
		}
	}
}

// P6.1: what Write refuses: the path ahead of the time.
func TestWriteWrong(t *testing.T) {
	seconds := []int{-1, last + 1, math.MinInt, math.MaxInt, math.MinInt32, -last, 1 << 40}
	for _, path := range []string{"", "\x00", "\x00a", "a\x00b", "a\x00", "/a\x00/b", "\x00\x00", "é\x00", "\n\x00", strings.Repeat("a", 1<<16) + "\x00"} {
		for _, sec := range append(seconds, 0, 1, noon, last) {
			if got, e := info.Write(path, sec); got != "" || e != api.ErrArg {
				t.Errorf("Write(%.20q, %d) = %.40q, %d, want ErrArg", path, sec, got, e)
			}
		}
	}
	for _, path := range paths() {
		for _, sec := range seconds {
			if got, e := info.Write(path, sec); got != "" || e != api.ErrRange {
				t.Errorf("Write(%.20q, %d) = %.40q, %d, want ErrRange", path, sec, got, e)
			}
		}
	}
}

// P6.2: what Parse takes.
func TestParse(t *testing.T) {
	const date = "DeletionDate=" + day + "\n"
	for _, c := range []struct {
		s, path string
		sec     int
	}{
		{begin + "Path=/a%20b\nDeletionDate=1970-01-01T00:00:00\n", "/a b", 0},
		{"[Trash Info]\nPath = x\r\n", "x", -1},
		{begin + "Path=x\n" + date, "x", noon},
		{begin + date + "Path=x\n", "x", noon},
		{begin + "Path=x\nDeletionDate=9999-12-31T23:59:59\n", "x", last},
		// The last line needs no newline.
		{begin + "Path=x", "x", -1}, {begin + "Path=x\n", "x", -1}, {begin + "Path=x\n\n", "x", -1},
		{begin + "Path=x\nDeletionDate=" + day, "x", noon}, {begin + date + "Path=x", "x", noon},
		// What surrounds a line.
		{" [Trash Info]\nPath=x", "x", -1}, {"[Trash Info] \nPath=x", "x", -1}, {"\t[Trash Info]\t\nPath=x", "x", -1}, {"\r[Trash Info]\r\nPath=x", "x", -1},
		{" \t\r \r\t[Trash Info]\r\t \n\r \tPath=x\t \r \t", "x", -1}, {"[Trash Info]\r\nPath=x\r\nDeletionDate=" + day + "\r\n", "x", noon},
		{begin + " Path=x", "x", -1}, {begin + "\tPath=x", "x", -1}, {begin + "\rPath=x", "x", -1},
		{begin + "Path=x ", "x", -1}, {begin + "Path=x\t", "x", -1}, {begin + "Path=x\r", "x", -1},
		{begin + "Path=x\n \t\rDeletionDate=" + day + "\r \t", "x", noon},
		// Lines that are ignored.
		{"\n" + begin + "Path=x\n", "x", -1}, {" \n\t\n\r\n\n" + begin + "Path=x\n", "x", -1}, {begin + "\n\n \n\t\n\r\nPath=x\n\n" + date, "x", noon},
		{"#\n" + begin + "Path=x\n", "x", -1}, {"# a\n#[Trash Info]\n#[b]\n" + begin + "Path=x\n", "x", -1}, {"\n# x\n" + begin + "Path=x\n[y]\nPath=q\n", "x", -1},
		{" # a\n\t#\n\r#\n" + begin + "Path=x\n", "x", -1}, {begin + "#Path=y\nPath=x\n#" + date, "x", -1}, {begin + " #Path=y\n\t#Path=y\n\r#Path=y\n # Path=y\nPath=x\n", "x", -1},
		{begin + "#[a]\n #[a]\nPath=x\n", "x", -1}, {begin + "# [\nPath=x\n" + date, "x", noon},
		// The group's end.
		{begin + "Path=x\n[a]\n" + date, "x", -1}, {begin + "Path=x\n[\n" + date, "x", -1}, {begin + "Path=x\n[a=b\n" + date, "x", -1}, {begin + "Path=x\n[]\n" + date, "x", -1},
		{begin + "Path=x\n [a]\n" + date, "x", -1}, {begin + "Path=x\n\t[\n" + date, "x", -1}, {begin + "Path=x\n\r[\n" + date, "x", -1},
		{begin + "Path=x\n" + begin + date, "x", -1}, {begin + "Path=x\n" + date + begin + "Path=y\n", "x", noon}, {begin + "Path=x\n[a]\n" + begin + date, "x", -1},
		{begin + "Path=x\n[Path]=y\n" + date, "x", -1}, {begin + "Path=x\n[a]\nPath=%\n", "x", -1}, {begin + "Path=x\n]\n" + date, "x", noon}, {begin + "Path=x\na[\n" + date, "x", noon},
		// Keys and values.
		{begin + "Path =x", "x", -1}, {begin + "Path= x", "x", -1}, {begin + "Path\t=\tx", "x", -1}, {begin + " Path \t = \t x ", "x", -1},
		{begin + "Path=x\nDeletionDate = \t" + day + " ", "x", noon}, {begin + "Path=x\n\tDeletionDate\t=" + day, "x", noon},
		{begin + "Path=a b", "a b", -1}, {begin + "Path=a\tb", "a\tb", -1}, {begin + "Path=a\rb", "a\rb", -1}, {begin + "Path=%20", " ", -1}, {begin + "Path= %20 ", " ", -1}, {begin + "Path=%0a%09%0D", "\n\t\r", -1},
		// A carriage return beside the = is neither a blank nor a tab.
		{begin + "Path=\rx", "\rx", -1}, {begin + "Path= \r x", "\r x", -1}, {begin + "Path\r=y\nPath=x", "x", -1}, {begin + "\rPath \r =y\nPath=x", "x", -1}, {begin + "Path=x\nDeletionDate=\r" + day, "x", -1}, {begin + "Path=x\nDeletionDate\r=" + day + "\n" + date, "x", noon},
		// Other white space is none.
		{begin + "Path=\vx\f", "\vx\f", -1}, {begin + "Path=\u00a0x", "\u00a0x", -1}, {begin + "\vPath=y\nPath=x", "x", -1}, {begin + "\fPath=y\nPath=x", "x", -1},
		// Several =, none, or nothing beside it.
		{begin + "Path=a=b", "a=b", -1}, {begin + "Path==x", "=x", -1}, {begin + "Path= = x", "= x", -1}, {begin + "Path===", "==", -1}, {begin + "Path=x=", "x=", -1}, {begin + "a=Path=y\nPath=x", "x", -1}, {begin + "=Path=y\nPath=x", "x", -1},
		{begin + "Path\nPath=x", "x", -1}, {begin + "Path x\nPath: x\nx\nDeletionDate\nPath=x\n" + date, "x", noon}, {begin + "=\n=y\n = \n==\nPath=x", "x", -1}, {begin + "a=\nPath=x", "x", -1},
		{begin + "Path=x\nDeletionDate=", "x", -1}, {begin + "Path=x\nDeletionDate= \n" + date, "x", -1}, {begin + "Path=x\nDeletionDate==" + day, "x", -1}, {begin + "Path=x\nDeletionDate=" + day + "=", "x", -1},
		// The first occurrence counts.
		{begin + "Path=x\nPath=y\n", "x", -1}, {begin + "Path=x\nPath=\n", "x", -1}, {begin + "Path=x\nPath=%\n" + date, "x", noon}, {begin + "Path=x\nPath=%00\nPath=z", "x", -1}, {begin + "Path=x\n" + date + "Path=y\nPath=z\n", "x", noon},
		{begin + "Path=x\n" + date + "DeletionDate=1970-01-01T00:00:00\n", "x", noon}, {begin + "Path=x\n" + date + "DeletionDate=\n", "x", noon}, {begin + "Path=x\n" + date + "DeletionDate=a\n", "x", noon},
		{begin + "Path=x\nDeletionDate=\n" + date, "x", -1}, {begin + "Path=x\nDeletionDate=a\n" + date, "x", -1}, {begin + "Path=x\nDeletionDate=1969-12-31T23:59:59\n" + date, "x", -1}, {begin + "DeletionDate=a\n" + date + "Path=x\n" + date, "x", -1},
		// Other keys.
		{begin + "path=y\nPATH=y\npAth=y\nPath=x", "x", -1}, {begin + "Path=x\ndeletiondate=" + day, "x", -1}, {begin + "Path=x\nDELETIONDATE=" + day, "x", -1}, {begin + "Path=x\nDeletiondate=" + day, "x", -1},
		{begin + "Path2=y\nPat=y\nPath[de]=y\nPa th=y\nPath.=y\n\"Path\"=y\nPath=x", "x", -1}, {begin + "Path=x\nDeletion Date=" + day + "\nDate=" + day + "\nDeletionDate2=" + day, "x", -1}, {begin + "Size=1\nPath=x\n", "x", -1},
		// Dates with an error.
		{begin + "Path=x\nDeletionDate=1969-12-31T23:59:59", "x", -1}, {begin + "Path=x\nDeletionDate=2023-02-29T00:00:00", "x", -1}, {begin + "Path=x\nDeletionDate=2000-02-29", "x", -1}, {begin + "Path=x\nDeletionDate=2000-02-29 12:00:00", "x", -1},
		{begin + "Path=x\nDeletionDate=" + day + "Z", "x", -1}, {begin + "Path=x\nDeletionDate=" + day + ".5", "x", -1}, {begin + "Path=x\nDeletionDate=10000-01-01T00:00:00", "x", -1}, {begin + "Path=x\nDeletionDate=0", "x", -1}, {begin + "Path=x\nDeletionDate=2000%2D02-29T12:00:00", "x", -1}, {begin + "Path=x\nDeletionDate=\x00", "x", -1},
		// Values that Decode takes.
		{begin + "Path=%4a%4A", "JJ", -1}, {begin + "Path=%2500", "%00", -1}, {begin + "Path=a+b", "a+b", -1}, {begin + "Path=é\xff", "é\xff", -1}, {begin + "Path=%C3%A9", "é", -1}, {begin + "Path=#x", "#x", -1}, {begin + "Path=[x", "[x", -1}, {begin + "Path=[Trash Info]", "[Trash Info]", -1}, {begin + "Path=\"x\"", "\"x\"", -1}, {begin + "Path=x # y", "x # y", -1}, {begin + "Path=..//a/", "..//a/", -1},
		// A zero byte is nothing special elsewhere.
		{begin + "\x00\na\x00=\x00\nPath\x00=y\nPath=x", "x", -1},
		{begin + "Path=" + strings.Repeat("a", api.MaxPath+1), strings.Repeat("a", api.MaxPath+1), -1},
	} {
		if path, sec, e := info.Parse(c.s); path != c.path || sec != c.sec || e != api.OK {
			t.Errorf("Parse(%.90q) = %.40q, %d, %d, want %.40q, %d", c.s, path, sec, e, c.path, c.sec)
		}
		parsed(t, c.s)
	}
}

// P6.2: what Parse refuses, with "" and 0 beside the error.
func TestParseWrong(t *testing.T) {
	const date = "DeletionDate=" + day + "\n"
	for _, s := range []string{
		// No group.
		"", "\n", " ", "\r\n", "\n\n\t\n", "#", "# a\n", "#[Trash Info]\nPath=x\n", " #[Trash Info]\nPath=x\n", "\x00", "x", "Path=x\n", "Path=x\n" + date, date,
		"[Trash Info\nPath=x\n", "Trash Info]\nPath=x\n", "Trash Info\nPath=x\n", "[TrashInfo]\nPath=x\n", "[Trash  Info]\nPath=x\n", "[Trash\tInfo]\nPath=x\n", "[ Trash Info]\nPath=x\n", "[Trash Info ]\nPath=x\n", "[trash info]\nPath=x\n", "[TRASH INFO]\nPath=x\n",
		"[Trash Info]]\nPath=x\n", "[[Trash Info]\nPath=x\n", "[Trash Info]a\nPath=x\n", "a[Trash Info]\nPath=x\n", "[Trash Info] a\nPath=x\n", "[Trash Info]#\nPath=x\n", "[Trash Info] Path=x\n", "[Trash Info]Path=x", "[Trash Info]\rPath=x", "[]\nPath=x\n", "[\nPath=x\n",
		"\ufeff" + begin + "Path=x\n", "\v" + begin + "Path=x\n", "[Trash Info]\f\nPath=x\n", "\x00" + begin + "Path=x\n", "[Trash Info]\x00\nPath=x\n", "\u00a0" + begin + "Path=x\n", "%5BTrash Info]\nPath=x\n",
		// Another line is the first one.
		"a\n" + begin + "Path=x\n", "Path=x\n" + begin + "Path=x\n", "=\n" + begin + "Path=x\n", "[a]\n" + begin + "Path=x\n", "[\n" + begin + "Path=x\n", "a=b\n" + begin + "Path=x\n", "\n#\n[a]\n#\n" + begin + "Path=x\n", ";\n" + begin + "Path=x\n",
		// No key Path.
		"[Trash Info]", begin, begin + "\n", begin + date, begin + "#Path=x\n", begin + " # Path=x\n", begin + "Path\n", begin + "Path x\n", begin + "Path:x\n", begin + "path=x\n", begin + "PATH=x\n", begin + "Path2=x\n", begin + "Pa th=x\n", begin + "Pat=x\n", begin + "=x\n", begin + "=Path=x\n", begin + "x=Path\n",
		begin + "Path\r=x\n", begin + "\vPath=x\n", begin + "Path\f=x\n", begin + "Path\x00=x\n", begin + "Path\u00a0=x\n", begin + "%50ath=x\n", begin + "\"Path\"=x\n",
		// It is behind the group's end.
		begin + "[a]\nPath=x\n", begin + "[\nPath=x\n", begin + " [a\nPath=x\n", begin + "\t[a]\nPath=x\n", begin + "\r[a]\nPath=x\n", begin + begin + "Path=x\n", begin + date + begin + "Path=x\n", begin + "[Path=x\n", begin + "[a]\n" + begin + "Path=x\n", begin + "[a=b]\nPath=x\n", begin + date + "[]\nPath=x\n" + date,
		// Its value has a wrong percent-encoding.
		begin + "Path=%\n", begin + "Path=%4\n", begin + "Path=%zz\n", begin + "Path=%4g\n", begin + "Path=%g4\n", begin + "Path=a%\n", begin + "Path=a%4\n" + date, begin + "Path=% 4\n", begin + "Path=%4 \n", begin + "Path=%41%\n", begin + "Path=%%41\n", begin + "Path=%\n41\n", begin + "Path=100%\n" + date,
		// It is empty.
		begin + "Path=\n", begin + "Path=", begin + "Path= \n", begin + "Path=\t\n", begin + "Path=\r\n", begin + "Path= \t\r \n", begin + " Path = \n" + date, begin + "Path=\nx\n",
		// It has a zero byte.
		begin + "Path=\x00\n", begin + "Path=%00\n", begin + "Path=%00a\n", begin + "Path=a%00\n", begin + "Path=a%00b\n" + date, begin + "Path=a\x00b\n", begin + "Path=a\x00\n", begin + "Path=\x00a\n",
		// The first occurrence is wrong.
		begin + "Path=\nPath=x\n", begin + "Path=%\nPath=x\n", begin + "Path=%00\nPath=x\n" + date, begin + "Path=\x00\n" + date + "Path=x\n", begin + " Path = \nPath=x\nPath=y\n", begin + "Path=a%4\n#\nPath=x\n",
	} {
		if path, sec, e := info.Parse(s); path != "" || sec != 0 || e != api.ErrForm {
			t.Errorf("Parse(%q) = %q, %d, %d, want ErrForm", s, path, sec, e)
		}
		parsed(t, s)
	}
}

// P6.2: all texts of a few lines, with a group ahead of them and without one.
func TestParseLines(t *testing.T) {
	lines := []string{
		"", " \t\r", "#", " #Path=c", "[Trash Info]", "\t[Trash Info] \r", "[a]", " [", "a", "Path",
		"Path=x", " Path\t= y ", "Path=", "Path=%", "Path=%00", "path=z", "Path\r=z", "Path=\rx", "=",
		"DeletionDate=" + day, "DeletionDate = 1970-01-01T00:00:00\r", "DeletionDate=", "DeletionDate=1969-12-31T23:59:59", "deletiondate=" + day,
	}
	for _, s := range rows(3, lines, "\n") {
		for _, ahead := range []string{"", begin, "\n# \n \r[Trash Info]\t\r\n", begin + "Path=x\n", begin + "DeletionDate=" + day + "\n"} {
			parsed(t, ahead+s)
			parsed(t, ahead+s+"\n")
		}
	}
}

// P6.2: all short lines of a group, out of what matters in it.
func TestParsePieces(t *testing.T) {
	pieces := []string{"Path", "DeletionDate", day, "=", "\n", " ", "\t", "\r", "#", "[", "%", "41", "\x00", "\v"}
	for _, s := range rows(4, pieces, "") {
		parsed(t, begin+s)
		parsed(t, begin+s+"\nPath=x\nDeletionDate="+day)
		parsed(t, begin+"Path="+s)
		parsed(t, begin+"Path=x\n"+s+"="+day)
	}
	for _, s := range rows(3, append(pieces, "[Trash Info]", "Trash Info]", "]", "a"), "") {
		parsed(t, s+begin+"Path=x")
		parsed(t, "[Trash Info]"+s+"\nPath=x")
	}
}

// P6.2: texts from which a byte is left out, in which it is doubled, or replaced by another one.
func TestParseBytes(t *testing.T) {
	for _, s := range []string{
		begin + "Path=/a%20b\nDeletionDate=" + day + "\n",
		" #c\r\n\n[Trash Info]\r\n Path\t=\tx y\r\nDeletionDate = " + day + "\r\n[a]\r\nPath=z\r\n",
		begin + "a=b\nPath=x\nPath=%\nDeletionDate=" + day + "\nDeletionDate=\n",
	} {
		parsed(t, s)
		for i := range len(s) {
			parsed(t, s[:i])
			parsed(t, s[i:])
			parsed(t, s[:i]+s[i+1:])
			parsed(t, s[:i+1]+s[i:])
			for b := range 256 {
				c := string([]byte{byte(b)})
				parsed(t, s[:i]+c+s[i+1:])
				parsed(t, s[:i]+c+s[i:])
			}
		}
	}
}

// P6.2, R1: long texts.
func TestParseLong(t *testing.T) {
	const n = 1 << 14
	for _, s := range []string{"\n", " ", "\r", "\r\n", "#\n", "#", "=", "=\n", "a\n", "[", "[\n", "[Trash Info]", begin, "Path=x\n", "Path=\n", "Path", "%", "%41", "\x00", "\xff", "é", " #\n", "a=b\n", "DeletionDate=" + day + "\n"} {
		long := strings.Repeat(s, n)
		parsed(t, long)
		parsed(t, long+begin+"Path=x")
		parsed(t, begin+long)
		parsed(t, begin+long+"\nPath=x\nDeletionDate="+day)
		parsed(t, begin+"Path=x\nDeletionDate="+day+long)
		parsed(t, begin+"Path="+long)
		parsed(t, begin+"Path=x\n"+long+"="+day)
	}
}

// P6.3: Parse reads what Write has written, also where it stands in a longer text.
func TestFollows(t *testing.T) {
	for _, path := range paths() {
		for _, sec := range []int{0, 1, 86399, noon, last - 1, last} {
			follows(t, path, sec)
		}
		s, _ := info.Write(path, noon)
		for _, around := range [][2]string{{"\n# a\n", "[b]\nPath=c\n"}, {" ", "\r"}, {"\r\n", "Path=c\nDeletionDate=d\n"}} {
			if got, sec, e := info.Parse(around[0] + s + around[1]); got != path || sec != noon || e != api.OK {
				t.Errorf("Parse of Write(%.20q, %d) between %q and %q = %.20q, %d, %d", path, noon, around[0], around[1], got, sec, e)
			}
		}
	}
	for sec := 0; sec < last; sec += 10*last/100003 + 1 {
		follows(t, "/a b", sec)
	}
}

// P6.1 to P6.3, beyond the inputs above.
func FuzzInfo(f *testing.F) {
	for _, path := range []string{"", "x", "/a b", "a\nb", "%", "\x00", "\xff"} {
		f.Add(path, noon)
		f.Add(begin+"Path = "+path+"\r\nDeletionDate="+day, 0)
	}
	f.Add("\n#\n[Trash Info]\nPath=x\nPath=\n[a]\n", last)
	f.Fuzz(func(t *testing.T, s string, sec int) {
		written(t, s, sec)
		parsed(t, s)
		parsed(t, begin+s)
		if s != "" && strings.IndexByte(s, 0) < 0 && sec >= 0 && sec <= last {
			follows(t, s, sec)
		}
	})
}
