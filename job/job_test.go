package job_test

import (
	"fmt"
	"hash/fnv"
	"math"
	"math/rand"
	"regexp"
	"slices"
	"strconv"
	"strings"
	"testing"

	"threshing/api"
	"threshing/check"
	"threshing/code"
	"threshing/job"
)

const (
	least    = math.MinInt64
	greatest = math.MaxInt64
)

// read returns the program with the given lines.
func read(lines ...string) []api.Ins {
	p, e := code.Read(strings.Join(lines, "\n") + "\n")
	if e != api.OK {
		panic(fmt.Sprint(lines, e))
	}
	return p
}

// num and text return values.
func num(n int) api.Val     { return api.Val{N: n} }
func text(s string) api.Val { return api.Val{IsText: true, S: s} }

// long returns a string of n bytes.
func long(n int) string { return strings.Repeat("ab\n\"", n/4+1)[:n] }

// words returns the job that counts words.
func words() job.Job {
	return job.Job{Words: true, Key: read("field 0"), Value: read("num 1"), Combine: true, Parts: 3, Fuel: 100}
}

// folding returns a job with a fold.
func folding(value []api.Ins, fold []api.Ins, init api.Val) job.Job {
	return job.Job{Key: read("field 0"), Value: value, Op: job.Fold, Fold: fold, Init: init, Parts: 1, Fuel: 7}
}

// copied returns a job that shares no memory with j.
func copied(j job.Job) job.Job {
	j.Where, j.Key, j.Value, j.Fold = slices.Clone(j.Where), slices.Clone(j.Key), slices.Clone(j.Value), slices.Clone(j.Fold)
	return j
}

// equal reports whether two jobs are equal.
func equal(a, b job.Job) bool {
	show := func(j job.Job) string {
		return fmt.Sprintf("%t %#v %#v %#v %d %#v %#v %t %d %t %t %d", j.Words, slices.Concat(j.Where), slices.Concat(j.Key), slices.Concat(j.Value),
			j.Op, slices.Concat(j.Fold), j.Init, j.Combine, j.Parts, j.Down, j.Numeric, j.Fuel)
	}
	return show(a) == show(b)
}

// isValue reports whether v is a value, by the words of chapter 13.
func isValue(v api.Val) bool {
	return v.IsText && v.N == 0 && len(v.S) <= 1000 || !v.IsText && v.S == ""
}

// leaves returns the kinds that a program leaves as letters, n for a number and t
// for a string, or an exclamation mark if it cannot be executed.
func leaves(p []api.Ins, fold ...bool) string {
	kinds, _, e := check.Stack(p, fold)
	if e != api.OK {
		return "!"
	}
	s := ""
	for _, isText := range kinds {
		s += letter(isText)
	}
	return s
}

// letter returns the letter of a kind.
func letter(isText bool) string {
	if isText {
		return "t"
	}
	return "n"
}

// wantCheck returns what Check is to return.
func wantCheck(j job.Job) api.Errno {
	value := leaves(j.Value)
	required := map[int]string{0: "n", 1: "n", 2: "n", 6: "t"}[j.Op]
	init := letter(j.Init.IsText)
	for _, fails := range []bool{
		len(j.Where) > 0 && leaves(j.Where) != "n",
		leaves(j.Key) != "t",
		value != "n" && value != "t",
		required != "" && value != required,
		j.Op == 7 && leaves(j.Fold, j.Init.IsText, value == "t") != init,
	} {
		if fails {
			return api.ErrType
		}
	}
	for _, fails := range []bool{
		j.Op != 7 && len(j.Fold) > 0, j.Op != 7 && j.Init != num(0), j.Op == 7 && !isValue(j.Init), j.Op < 0, j.Op > 7,
		j.Combine && j.Op != 0 && j.Op != 1 && j.Op != 2, j.Parts < 1, j.Parts > 8, j.Fuel < 0, j.Fuel > 100000,
	} {
		if fails {
			return api.ErrArg
		}
	}
	return api.OK
}

// wantKind returns what Kind is to return.
func wantKind(j job.Job) (bool, api.Errno) {
	if e := wantCheck(j); e != api.OK {
		return false, e
	}
	return j.Op >= 4 && j.Op <= 6 && leaves(j.Value) == "t" || j.Op == 7 && j.Init.IsText, api.OK
}

// wantEncode returns what Encode is to return.
func wantEncode(j job.Job) (string, api.Errno) {
	if e := wantCheck(j); e != api.OK {
		return "", e
	}
	s := ""
	for _, f := range []struct {
		name string
		set  bool
	}{{"words", j.Words}, {"combine", j.Combine}, {"down", j.Down}, {"numeric", j.Numeric}} {
		if f.set {
			s += f.name + "\n"
		}
	}
	s += fmt.Sprintf("op %d\nparts %d\nfuel %d\n", j.Op, j.Parts, j.Fuel)
	if j.Op == 7 && j.Init.IsText {
		s += `init text "` + strings.NewReplacer(`\`, `\\`, `"`, `\"`, "\n", `\n`).Replace(j.Init.S) + "\"\n"
	} else if j.Op == 7 {
		s += fmt.Sprintf("init num %d\n", j.Init.N)
	}
	for _, f := range []struct {
		name string
		p    []api.Ins
	}{{"where", j.Where}, {"key", j.Key}, {"value", j.Value}, {"fold", j.Fold}} {
		if len(f.p) > 0 {
			lines, _ := code.Print(f.p)
			s += f.name + ":\n" + lines
		}
	}
	return s, api.OK
}

// form is what each text form matches: the lines of a program do not end with a
// colon.
var form = regexp.MustCompile(`\A(words\n)?(combine\n)?(down\n)?(numeric\n)?op ([0-7])\nparts ([1-8])\nfuel (0|[1-9][0-9]{0,5})\n` +
	`(?:init (num|text) ([^\n]*)\n)?(?:where:\n` + block + `)?(?:key:\n` + block + `)?(?:value:\n` + block + `)?(?:fold:\n` + block + `)?\z`)

// block is what the lines of a program match.
const block = `((?:[^\n]*[^:\n]\n)+)`

// wantDecode returns what Decode is to return.
func wantDecode(s string) (job.Job, api.Errno) {
	m := form.FindStringSubmatch(s)
	if m == nil {
		return job.Job{}, api.ErrForm
	}
	j := job.Job{Words: m[1] != "", Combine: m[2] != "", Down: m[3] != "", Numeric: m[4] != ""}
	for i, n := range []*int{&j.Op, &j.Parts, &j.Fuel} {
		*n, _ = strconv.Atoi(m[5+i])
	}
	if (j.Op == 7) != (m[8] != "") {
		return job.Job{}, api.ErrForm
	}
	if m[8] != "" {
		x, e := code.Parse(m[8] + " " + m[9])
		if e != api.OK {
			return job.Job{}, api.ErrForm
		}
		j.Init = api.Val{IsText: m[8] == "text", N: x.N, S: x.S}
	}
	for i, p := range []*[]api.Ins{&j.Where, &j.Key, &j.Value, &j.Fold} {
		l, e := code.Read(m[10+i])
		if e != api.OK {
			return job.Job{}, api.ErrForm
		}
		*p = l
	}
	if wantCheck(j) != api.OK {
		return job.Job{}, api.ErrForm
	}
	return j, api.OK
}

// wantPart returns what Part is to return.
func wantPart(j job.Job, key string) int {
	if j.Parts < 1 {
		return 0
	}
	h := fnv.New32a()
	h.Write([]byte(key))
	return int(h.Sum32()&0x7fffffff) % j.Parts
}

// number is what a string matches that represents a number.
var number = regexp.MustCompile(`\A-?[0-9]{1,18}\z`)

// wantAhead returns what Ahead is to return.
func wantAhead(j job.Job, a, b string) bool {
	order := strings.Compare(a, b)
	if j.Numeric {
		var n [2]int
		for i, key := range []string{a, b} {
			if number.MatchString(key) {
				n[i], _ = strconv.Atoi(key)
			}
		}
		if n[0] < n[1] {
			order = -1
		} else if n[0] > n[1] {
			order = 1
		}
	}
	if j.Down {
		order = -order
	}
	return order < 0
}

// verify checks Check, Kind and Encode for a job, and Decode for its text form.
func verify(t *testing.T, j job.Job) {
	t.Helper()
	before := copied(j)
	if g, w := job.Check(j), wantCheck(j); g != w {
		t.Fatalf("Check(%v) = %d, want %d", j, g, w)
	}
	g, e := job.Kind(j)
	if w, f := wantKind(j); g != w || e != f {
		t.Fatalf("Kind(%v) = %t, %d, want %t, %d", j, g, e, w, f)
	}
	s, e := job.Encode(j)
	w, f := wantEncode(j)
	if s != w || e != f {
		t.Fatalf("Encode(%v) = %q, %d, want %q, %d", j, s, e, w, f)
	}
	if !equal(j, before) {
		t.Fatalf("%v was changed to %v", before, j)
	}
	if e != api.OK {
		return
	}
	if k, e := job.Decode(s); e != api.OK || !equal(k, j) || !job.Same(k, j) {
		t.Fatalf("Decode(%q) = %v, %d, want %v", s, k, e, j)
	}
}

// verifyDecode checks Decode for a string, and reports whether it is a text form.
func verifyDecode(t *testing.T, s string) bool {
	t.Helper()
	j, e := job.Decode(s)
	w, f := wantDecode(s)
	if !equal(j, w) || e != f {
		t.Fatalf("Decode(%q) = %v, %d, want %v, %d", s, j, e, w, f)
	}
	if e != api.OK {
		return false
	}
	if again, e := job.Encode(j); again != s || e != api.OK {
		t.Fatalf("Encode of what Decode returns for %q = %q, %d", s, again, e)
	}
	return true
}

func TestConstants(t *testing.T) {
	l := []int{job.Sum, job.Min, job.Max, job.Count, job.First, job.Last, job.Join, job.Fold}
	if !slices.Equal(l, []int{0, 1, 2, 3, 4, 5, 6, 7}) {
		t.Errorf("%v", l)
	}
}

// valids returns valid jobs, in which everything occurs.
func valids() []job.Job {
	n, s := read("field 0", "len"), read(`text "a\n"`, "field 49", "join")
	key := read("field 0")
	l := []job.Job{
		words(), {Key: key, Value: n, Parts: 1}, {Key: s, Value: n, Parts: 8, Fuel: 100000},
		{Where: read("num 0"), Key: key, Value: n, Op: job.Min, Parts: 2, Down: true, Fuel: 1},
		{Where: read("count", "num 2", "eq"), Key: key, Value: n, Op: job.Max, Combine: true, Parts: 3, Numeric: true, Fuel: 99999},
		{Key: key, Value: n, Op: job.Count, Parts: 4}, {Key: key, Value: s, Op: job.Count, Parts: 4},
		{Key: key, Value: n, Op: job.First, Parts: 5}, {Key: key, Value: s, Op: job.First, Parts: 5},
		{Key: key, Value: n, Op: job.Last, Parts: 6}, {Key: key, Value: s, Op: job.Last, Parts: 6},
		{Words: true, Key: key, Value: s, Op: job.Join, Parts: 7, Down: true, Numeric: true},
		{Words: true, Where: n, Key: key, Value: n, Combine: true, Parts: 7, Down: true, Numeric: true, Fuel: 10},
		folding(n, read("acc", "item", "add"), num(0)), folding(n, read("item"), num(-5)), folding(n, read("acc"), num(least)),
		folding(n, read("acc"), num(greatest)), folding(s, read("acc", "item", "join"), text("")), folding(s, read("num 3"), num(1)),
		folding(s, read("acc"), num(7)), folding(n, read("acc"), text("\"\\\nx\xff\x00:")), folding(n, read("acc", "item", "totext", "join"), text("fold:")),
		folding(n, read(`text "key:"`), text(strings.Repeat("\n", 1000))), folding(s, read("item"), text(long(1000))),
		{Key: key, Value: slices.Repeat(s[:1], 1), Op: job.Join, Parts: 1, Fuel: 5},
		{Key: slices.Concat(read("field 1"), slices.Repeat(read("upper"), 199)), Value: slices.Concat(n, slices.Repeat(read("not"), 198)), Parts: 1},
		{Where: slices.Concat(n, slices.Repeat(read("not"), 198)), Key: key, Value: s, Op: job.Last, Parts: 1},
		folding(n, slices.Concat(read("acc"), slices.Repeat(read("not"), 199)), num(3)),
	}
	for i, j := range l {
		if wantCheck(j) != api.OK {
			panic(fmt.Sprint("job ", i, " is not valid"))
		}
	}
	return l
}

func TestValidJobs(t *testing.T) {
	for i, j := range valids() {
		if e := job.Check(j); e != api.OK {
			t.Errorf("job %d: Check = %d", i, e)
		}
		verify(t, j)
		s, _ := wantEncode(j)
		if !verifyDecode(t, s) {
			t.Errorf("job %d: %q is taken for no text form", i, s)
		}
	}
}

func TestKinds(t *testing.T) {
	n, s := read("num 1"), read(`text "1"`)
	for op, want := range map[int]string{job.Sum: "n!", job.Min: "n!", job.Max: "n!", job.Count: "nn", job.First: "nt", job.Last: "nt", job.Join: "!t"} {
		for i, p := range [][]api.Ins{n, s} {
			got, e := job.Kind(job.Job{Key: s, Value: p, Op: op, Parts: 1})
			if want[i] == '!' && (got || e != api.ErrType) || want[i] != '!' && (letter(got) != want[i:i+1] || e != api.OK) {
				t.Errorf("Op %d of %v: %t, %d, want %c", op, p, got, e, want[i])
			}
		}
	}
	for _, p := range [][]api.Ins{n, s} {
		for _, init := range []api.Val{num(0), num(-3), text(""), text("a")} {
			if got, e := job.Kind(folding(p, read("acc"), init)); got != init.IsText || e != api.OK {
				t.Errorf("a fold of %v from %v: %t, %d", p, init, got, e)
			}
		}
	}
	if got, e := job.Kind(job.Job{}); got || e != api.ErrType {
		t.Errorf("%t, %d", got, e)
	}
	if got, e := job.Kind(job.Job{Key: s, Value: s, Op: job.First}); got || e != api.ErrArg {
		t.Errorf("%t, %d", got, e)
	}
}

// TestErrors checks what is wrong one by one.
func TestErrors(t *testing.T) {
	manyText := slices.Concat(read("field 0"), slices.Repeat(read("upper"), 200))
	manyNum := slices.Concat(read("num 1"), slices.Repeat(read("not"), 200))
	fold := folding(read("field 0"), read("acc", "item", "len", "add"), num(0))
	for i, c := range []struct {
		change func(j *job.Job)
		e      api.Errno
	}{
		{func(j *job.Job) {}, api.OK},
		{func(j *job.Job) { j.Where = []api.Ins{} }, api.OK},
		{func(j *job.Job) { j.Fold = []api.Ins{} }, api.OK},
		{func(j *job.Job) { j.Where = read("field 0") }, api.ErrType},
		{func(j *job.Job) { j.Where = read("num 1", "num 1") }, api.ErrType},
		{func(j *job.Job) { j.Where = read("not") }, api.ErrType},
		{func(j *job.Job) { j.Where = read("acc") }, api.ErrType},
		{func(j *job.Job) { j.Where = manyNum }, api.ErrType},
		{func(j *job.Job) { j.Where = []api.Ins{{Op: 24}} }, api.ErrType},
		{func(j *job.Job) { j.Where = slices.Repeat(read("num 1"), 31) }, api.ErrType},
		{func(j *job.Job) { j.Key = nil }, api.ErrType},
		{func(j *job.Job) { j.Key = read("num 1") }, api.ErrType},
		{func(j *job.Job) { j.Key = read("field 0", "field 0") }, api.ErrType},
		{func(j *job.Job) { j.Key = read("item") }, api.ErrType},
		{func(j *job.Job) { j.Key = manyText }, api.ErrType},
		{func(j *job.Job) { j.Key = []api.Ins{{Op: 2, N: 50}} }, api.ErrType},
		{func(j *job.Job) { j.Value = nil }, api.ErrType},
		{func(j *job.Job) { j.Value = read("field 0") }, api.ErrType},
		{func(j *job.Job) { j.Value = read("num 1", "num 1") }, api.ErrType},
		{func(j *job.Job) { j.Value = read("add") }, api.ErrType},
		{func(j *job.Job) { j.Value = read("acc") }, api.ErrType},
		{func(j *job.Job) { j.Value = manyNum }, api.ErrType},
		{func(j *job.Job) { j.Value, j.Op = read("field 0"), job.Min }, api.ErrType},
		{func(j *job.Job) { j.Value, j.Op = read("field 0"), job.Max }, api.ErrType},
		{func(j *job.Job) { j.Op = job.Join }, api.ErrType},
		{func(j *job.Job) { j.Op = job.Fold }, api.ErrType},
		{func(j *job.Job) { j.Value, j.Op = read("num 1", "num 1"), job.First }, api.ErrType},
		{func(j *job.Job) { j.Value, j.Op = nil, 99 }, api.ErrType},
		{func(j *job.Job) { j.Key, j.Parts = nil, 0 }, api.ErrType},
		{func(j *job.Job) { j.Value, j.Fuel, j.Op, j.Init = nil, -1, -1, text("") }, api.ErrType},
		{func(j *job.Job) { j.Op = job.Count }, api.ErrArg},
		{func(j *job.Job) { j.Op = job.First }, api.ErrArg},
		{func(j *job.Job) { j.Op = job.Last }, api.ErrArg},
		{func(j *job.Job) { j.Op, j.Value = job.Join, read("field 0") }, api.ErrArg},
		{func(j *job.Job) { j.Op, j.Combine = job.Count, false }, api.OK},
		{func(j *job.Job) { j.Op = job.Max }, api.OK},
		{func(j *job.Job) { j.Op, j.Combine = -1, false }, api.ErrArg},
		{func(j *job.Job) { j.Op, j.Combine = 8, false }, api.ErrArg},
		{func(j *job.Job) { j.Op, j.Combine, j.Value = 8, false, read("field 0") }, api.ErrArg},
		{func(j *job.Job) { j.Op, j.Combine = least, false }, api.ErrArg},
		{func(j *job.Job) { j.Op, j.Combine = 1<<32, false }, api.ErrArg},
		{func(j *job.Job) { j.Parts = 1 }, api.OK},
		{func(j *job.Job) { j.Parts = 8 }, api.OK},
		{func(j *job.Job) { j.Parts = 0 }, api.ErrArg},
		{func(j *job.Job) { j.Parts = 9 }, api.ErrArg},
		{func(j *job.Job) { j.Parts = -1 }, api.ErrArg},
		{func(j *job.Job) { j.Parts = greatest }, api.ErrArg},
		{func(j *job.Job) { j.Fuel = 0 }, api.OK},
		{func(j *job.Job) { j.Fuel = 100000 }, api.OK},
		{func(j *job.Job) { j.Fuel = -1 }, api.ErrArg},
		{func(j *job.Job) { j.Fuel = 100001 }, api.ErrArg},
		{func(j *job.Job) { j.Fold = read("acc") }, api.ErrArg},
		{func(j *job.Job) { j.Fold = []api.Ins{{Op: 99}} }, api.ErrArg},
		{func(j *job.Job) { j.Fold = manyNum }, api.ErrArg},
		{func(j *job.Job) { j.Init = num(1) }, api.ErrArg},
		{func(j *job.Job) { j.Init = text("") }, api.ErrArg},
		{func(j *job.Job) { j.Init = api.Val{S: "a"} }, api.ErrArg},
		{func(j *job.Job) { j.Init = text(long(1001)) }, api.ErrArg},
		{func(j *job.Job) { *j = fold }, api.OK},
		{func(j *job.Job) { *j = fold; j.Combine = true }, api.ErrArg},
		{func(j *job.Job) { *j = fold; j.Fold = nil }, api.ErrType},
		{func(j *job.Job) { *j = fold; j.Fold = read("acc", "item", "add") }, api.ErrType},
		{func(j *job.Job) { *j = fold; j.Fold = read("item") }, api.ErrType},
		{func(j *job.Job) { *j = fold; j.Fold = read("acc", "acc") }, api.ErrType},
		{func(j *job.Job) { *j = fold; j.Fold = read("field 0") }, api.ErrType},
		{func(j *job.Job) { *j = fold; j.Fold = manyNum }, api.ErrType},
		{func(j *job.Job) { *j = fold; j.Value = nil }, api.ErrType},
		{func(j *job.Job) { *j = fold; j.Value = read("num 1") }, api.ErrType},
		{func(j *job.Job) { *j = fold; j.Init = text("a") }, api.ErrType},
		{func(j *job.Job) { *j = fold; j.Init = api.Val{N: 1, S: "a"} }, api.ErrArg},
		{func(j *job.Job) { *j = fold; j.Init = api.Val{S: "a"} }, api.ErrArg},
		{func(j *job.Job) { *j = fold; j.Init, j.Fold = api.Val{IsText: true, N: 1}, read("acc") }, api.ErrArg},
		{func(j *job.Job) { *j = fold; j.Init, j.Fold = text(long(1000)), read("acc") }, api.OK},
		{func(j *job.Job) { *j = fold; j.Init, j.Fold = text(long(1001)), read("acc") }, api.ErrArg},
		{func(j *job.Job) { *j = fold; j.Init = text(long(1001)) }, api.ErrType},
		{func(j *job.Job) { *j = job.Job{} }, api.ErrType},
	} {
		j := words()
		c.change(&j)
		if e := job.Check(j); e != c.e {
			t.Errorf("case %d: Check = %d, want %d", i, e, c.e)
		}
		if s, e := job.Encode(j); e != c.e || (s == "") != (e != api.OK) {
			t.Errorf("case %d: Encode = %q, %d", i, s, e)
		}
		if isText, e := job.Kind(j); e != c.e || isText && e != api.OK {
			t.Errorf("case %d: Kind = %t, %d", i, isText, e)
		}
		verify(t, j)
	}
}

// programs returns programs of all sorts.
func programs() [][]api.Ins {
	return [][]api.Ins{
		nil, read("num 1"), read("field 0"), read("acc"), read("item"), read("acc", "item", "add"), read("acc", "item", "join"),
		read("acc", "acc"), read("num 1", "field 0"), read("add"), {{Op: 24}}, {{Op: 1, N: 1}}, make([]api.Ins, 201),
	}
}

// TestAllJobs checks all jobs that are made of a few parts.
func TestAllJobs(t *testing.T) {
	inits := []api.Val{num(0), num(-7), text(""), text("a"), {S: "a"}, {IsText: true, N: 1}, text(long(1001))}
	n, s := read("num 1"), read("field 0")
	for op := -1; op <= 8; op++ {
		for _, init := range inits {
			for _, combine := range []bool{false, true} {
				for _, p := range programs() {
					for _, q := range programs() {
						verify(t, job.Job{Key: s, Value: p, Op: op, Fold: q, Init: init, Combine: combine, Parts: 1})
					}
					for _, q := range [][]api.Ins{n, s} {
						verify(t, job.Job{Where: p, Key: s, Value: q, Op: op, Fold: read("acc"), Init: init, Combine: combine, Parts: 1})
						verify(t, job.Job{Key: p, Value: q, Op: op, Init: init, Combine: combine, Parts: 1})
					}
				}
			}
		}
		for _, parts := range []int{least, -1, 0, 1, 2, 7, 8, 9, 10, greatest} {
			for _, fuel := range []int{least, -1, 0, 1, 9, 10, 99999, 100000, 100001, greatest} {
				for bits := range 16 {
					verify(t, job.Job{Words: bits&1 > 0, Key: s, Value: n, Op: op, Combine: bits&2 > 0, Parts: parts, Down: bits&4 > 0, Numeric: bits&8 > 0, Fuel: fuel})
				}
			}
		}
	}
}

func TestEncodeExamples(t *testing.T) {
	for _, c := range []struct {
		j job.Job
		s string
	}{
		{words(), "words\ncombine\nop 0\nparts 3\nfuel 100\nkey:\nfield 0\nvalue:\nnum 1\n"},
		{job.Job{Key: read("field 0"), Value: read("num 1"), Parts: 1}, "op 0\nparts 1\nfuel 0\nkey:\nfield 0\nvalue:\nnum 1\n"},
		{job.Job{Where: read("count", "not"), Key: read(`text ""`), Value: read(`text "\n\"\\"`), Op: job.Join, Parts: 8, Down: true, Numeric: true, Fuel: 100000},
			"down\nnumeric\nop 6\nparts 8\nfuel 100000\nwhere:\ncount\nnot\nkey:\ntext \"\"\nvalue:\ntext \"\\n\\\"\\\\\"\n"},
		{folding(read("field 1"), read("acc", "item", "join"), text("a\n")),
			"op 7\nparts 1\nfuel 7\ninit text \"a\\n\"\nkey:\nfield 0\nvalue:\nfield 1\nfold:\nacc\nitem\njoin\n"},
		{folding(read("field 1"), read("acc"), num(-12)), "op 7\nparts 1\nfuel 7\ninit num -12\nkey:\nfield 0\nvalue:\nfield 1\nfold:\nacc\n"},
		{folding(read("field 1"), read("acc"), num(0)), "op 7\nparts 1\nfuel 7\ninit num 0\nkey:\nfield 0\nvalue:\nfield 1\nfold:\nacc\n"},
	} {
		if s, e := job.Encode(c.j); s != c.s || e != api.OK {
			t.Errorf("Encode(%v) = %q, %d, want %q", c.j, s, e, c.s)
		}
		if j, e := job.Decode(c.s); !equal(j, c.j) || e != api.OK {
			t.Errorf("Decode(%q) = %v, %d, want %v", c.s, j, e, c.j)
		}
	}
}

func TestDecodeErrors(t *testing.T) {
	s := "words\ncombine\nop 0\nparts 3\nfuel 100\nkey:\nfield 0\nvalue:\nnum 1\n"
	f := "op 7\nparts 1\nfuel 7\ninit num 3\nkey:\nfield 0\nvalue:\nfield 1\nfold:\nacc\n"
	for _, c := range []struct{ form, old, new string }{
		{s, s, ""}, {s, s, "\n"}, {s, s, s + "\n"}, {s, s, s + s}, {s, s, s + "num 1\n"}, {s, s, s + "where:\n"}, {s, s, s + "fold:\n"}, {s, s, s + "fold:\nacc\n"},
		{s, s, " " + s}, {s, s, "\n" + s}, {s, s, "down\n" + s}, {s, s, "words\n" + s}, {s, s, strings.TrimSuffix(s, "\n")}, {s, "\n", "\r\n"}, {s, "\n", " \n"},
		{s, "words", "Words"}, {s, "words", "words 1"}, {s, "combine", "combined"}, {s, "words\ncombine", "combine\nwords"}, {s, "combine\n", "combine\ncombine\n"},
		{s, "combine", "numeric\ndown"}, {s, "combine", "combine\nnumeric\ndown"}, {s, "combine", "down\ncombine"}, {s, "combine\nop 0", "op 0\ncombine"},
		{s, "op 0\n", ""}, {s, "op 0", "op 00"}, {s, "op 0", "op -0"}, {s, "op 0", "op +0"}, {s, "op 0", "op"}, {s, "op 0", "op "}, {s, "op 0", "op  0"}, {s, "op 0", "op 3"},
		{s, "op 0", "op 6"}, {s, "op 0", "op 7"}, {s, "op 0", "op 8"}, {s, "op 0", "op sum"}, {s, "op 0", "op 0x0"}, {s, "op 0", "op 18446744073709551616"}, {s, "op 0", "op 0\nop 0"},
		{s, "parts 3", "parts 0"}, {s, "parts 3", "parts 9"}, {s, "parts 3", "parts 03"}, {s, "parts 3", "parts -3"}, {s, "parts 3\n", ""}, {s, "op 0\nparts 3", "parts 3\nop 0"},
		{s, "fuel 100", "fuel 0100"}, {s, "fuel 100", "fuel 100001"}, {s, "fuel 100", "fuel -1"}, {s, "fuel 100", "fuel 1e2"}, {s, "fuel 100", "fuel 1_0"}, {s, "fuel 100\n", ""},
		{s, "fuel 100", "fuel 100\ninit num 0"}, {s, "fuel 100", "fuel 100\nwhere:"}, {s, "fuel 100", "fuel 100\nwhere:\nfield 0"}, {s, "key:", "where:\nnum 1\nwhere:\nnum 1\nkey:"},
		{s, "key:\nfield 0\n", ""}, {s, "value:\nnum 1\n", ""}, {s, "key:\nfield 0\nvalue:\nnum 1\n", "value:\nnum 1\nkey:\nfield 0\n"}, {s, "key:", "key"}, {s, "key:", "key: "},
		{s, "key:", "Key:"}, {s, "field 0", "field 00"}, {s, "field 0", "field 50"}, {s, "field 0", "num 0"}, {s, "field 0\n", ""}, {s, "field 0", "acc"}, {s, "field 0", ""},
		{s, "num 1", `text "1"`}, {s, "num 1", "num +1"}, {s, "num 1", "num 1\n"}, {s, "num 1", "num 1\nnum 1"}, {s, "num 1", "sum 1"}, {s, "num 1\n", "num 1\nkey:\nfield 0\n"},
		{f, "init num 3\n", ""}, {f, "init num 3", "init 3"}, {f, "init num 3", "init num 03"}, {f, "init num 3", "init num 9223372036854775808"}, {f, "init num 3", `init text "a`},
		{f, "init num 3", "init"}, {f, "init num 3", "init "}, {f, "init num 3", "init count"}, {f, "init num 3", "init field 0"}, {f, "init num 3", "init field 3"}, {f, "init num 3", "init num 3\ninit num 3"},
		{f, "init num 3", "init  num 3"}, {f, "init num 3", "init num 3 "}, {f, "init num 3", "init add"}, {f, "init num 3", `init text "`}, {f, "op 7", "op 4"}, {f, "op 7", "combine\nop 7"},
		{f, "init num 3\nkey:\nfield 0\n", "key:\nfield 0\ninit num 3\n"}, {f, "fold:\nacc\n", ""}, {f, "fold:\nacc\n", "fold:\n"}, {f, "acc", "item"}, {f, "acc", "acc\nacc"}, {f, "acc\n", "acc\nfold:\nacc\n"},
		{f, "acc\n", strings.Repeat("acc\nitem\njoin\n", 67)}, {f, "num 3\n", "text \"" + strings.Repeat("a", 1001) + "\"\n"},
	} {
		form := strings.Replace(c.form, c.old, c.new, 1)
		if form == c.form {
			t.Fatalf("%q is not changed by %q", c.form, c.old)
		}
		if j, e := job.Decode(form); e != api.ErrForm || !equal(j, job.Job{}) {
			t.Errorf("Decode(%q) = %v, %d", form, j, e)
		}
		verifyDecode(t, form)
	}
}

// TestChangedForms checks Decode for text forms with one change.
func TestChangedForms(t *testing.T) {
	good := 0
	for _, j := range valids() {
		s, _ := job.Encode(j)
		lines := strings.SplitAfter(s, "\n")
		if len(lines) < 50 {
			for i := range lines {
				for k := range lines {
					for _, l := range [][]string{slices.Delete(slices.Clone(lines), min(i, k), max(i, k)), slices.Insert(slices.Clone(lines), i, lines[k]), swapped(lines, i, k)} {
						if verifyDecode(t, strings.Join(l, "")) {
							good++
						}
					}
				}
			}
		}
		if len(s) > 300 {
			continue
		}
		for i := range len(s) + 1 {
			verifyDecode(t, s[:i])
			verifyDecode(t, s[i:])
			for _, c := range []string{"\n", " ", "0", "1", "7", "-", "\"", ":", "a", "\x80", "num 1\n", "words\n", "key:\n"} {
				for _, u := range []string{s[:i] + c + s[i:], s[:i] + c + s[min(i+1, len(s)):]} {
					if verifyDecode(t, u) {
						good++
					}
				}
			}
			verifyDecode(t, s[:i]+s[min(i+1, len(s)):])
		}
	}
	if good < 100 {
		t.Errorf("only %d of the changed text forms are text forms", good)
	}
}

// swapped returns the lines with two of them swapped.
func swapped(lines []string, i, k int) []string {
	l := slices.Clone(lines)
	l[i], l[k] = l[k], l[i]
	return l
}

func TestLongForms(t *testing.T) {
	s, _ := job.Encode(words())
	for _, u := range []string{
		strings.Repeat("\n", 1<<20), strings.Repeat("words\n", 1<<18), s + strings.Repeat("not\n", 1<<18), s + strings.Repeat("x", 1<<20),
		"op " + strings.Repeat("0", 1<<20), strings.Replace(s, "100", strings.Repeat("9", 1<<20), 1), strings.Replace(s, "key:\n", "key:\n"+strings.Repeat("field 0\n", 1<<17), 1),
	} {
		if j, e := job.Decode(u); e != api.ErrForm || !equal(j, job.Job{}) {
			t.Errorf("Decode of %d bytes: %v, %d", len(u), j.Op, e)
		}
	}
	for n := 195; n < 205; n++ {
		for _, c := range []struct{ head, line string }{{"where:\ncount\n", "not\n"}, {"key:\nfield 0\n", "lower\n"}, {"value:\nnum 1\n", "not\n"}} {
			form := strings.Replace("op 0\nparts 3\nfuel 100\nwhere:\ncount\nkey:\nfield 0\nvalue:\nnum 1\n", c.head, c.head+strings.Repeat(c.line, n-1), 1)
			if good := verifyDecode(t, form); good != (n <= 200) {
				t.Errorf("%d instructions: %t", n, good)
			}
		}
	}
}

func TestPart(t *testing.T) {
	for parts := -3; parts < 30; parts++ {
		j := job.Job{Parts: parts}
		for _, key := range keys() {
			if g, w := job.Part(j, key), wantPart(j, key); g != w {
				t.Errorf("Part(%d, %q) = %d, want %d", parts, key, g, w)
			}
		}
	}
	for _, c := range []struct {
		parts int
		key   string
		want  int
	}{{3, "", 18652613 % 3}, {8, "", 18652613 % 8}, {greatest, "", 18652613}, {0, "a", 0}, {-1, "a", 0}, {least, "a", 0}, {1, "a", 0}, {1 << 31, "a", 0xe40c292c & 0x7fffffff}} {
		if got := job.Part(job.Job{Parts: c.parts}, c.key); got != c.want {
			t.Errorf("Part(%d, %q) = %d, want %d", c.parts, c.key, got, c.want)
		}
	}
	found := map[int]int{}
	j := words()
	j.Parts = 8
	for i := range 200 {
		found[job.Part(j, strconv.Itoa(i))]++
	}
	if len(found) != 8 {
		t.Errorf("%v", found)
	}
}

// keys returns keys, among them numbers at the limits and what is none.
func keys() []string {
	l := []string{
		"", "0", "00", "-0", "-", "--1", "1", "01", "-1", "-01", "+1", " 1", "1 ", "9", "10", "007", "7", "1.5", "1e3", "0x1", "1_0", "a", "A", "b", "ab", "a\x00", "\x00", "\xff", "\n", "é", "\u0661",
		strings.Repeat("9", 17), strings.Repeat("9", 18), strings.Repeat("9", 19), "-" + strings.Repeat("9", 18), "-" + strings.Repeat("9", 19), "1" + strings.Repeat("0", 17), "1" + strings.Repeat("0", 18),
		strings.Repeat("0", 17) + "5", strings.Repeat("0", 18) + "5", "-" + strings.Repeat("0", 17) + "5", "-" + strings.Repeat("0", 18) + "5", strings.Repeat("0", 18), strings.Repeat("0", 19),
		"9223372036854775807", "9223372036854775808", "-9223372036854775808", "18446744073709551617", long(999), long(1000), long(1001), long(1000) + "c", long(3000), strings.Repeat("1", 1000), strings.Repeat("1", 1001),
	}
	return slices.Clip(l)
}

// orders returns jobs with all orders.
func orders() []job.Job {
	return []job.Job{{}, {Down: true}, {Numeric: true}, {Down: true, Numeric: true}}
}

func TestAheadExamples(t *testing.T) {
	for _, c := range []struct {
		a, b string
		want string
	}{
		{"9", "10", "ny"}, {"10", "9", "yn"}, {"a", "b", "yy"}, {"b", "a", "nn"}, {"7", "7", "nn"}, {"a", "a", "nn"}, {"", "", "nn"}, {"007", "7", "yy"}, {"7", "007", "nn"}, {"-1", "0", "yy"},
		{"-2", "-1", "ny"}, {"-1", "-2", "yn"}, {"a", "-1", "nn"}, {"-1", "a", "yy"}, {"a", "1", "ny"}, {"1", "a", "yn"}, {"", "1", "yy"}, {"", "-1", "yn"}, {"+1", "0", "yy"}, {"0", "+1", "nn"},
		{"999999999999999999", "1000000000000000000", "nn"}, {"1000000000000000000", "999999999999999999", "yy"}, {"5", "000000000000000005", "nn"}, {"5", "0000000000000000005", "nn"},
		{"0000000000000000005", "5", "yy"}, {"-999999999999999999", "-1", "ny"}, {"-1000000000000000000", "-1", "nn"}, {"-1", "-1000000000000000000", "yy"}, {"a", "B", "nn"}, {"a", "aa", "yy"}, {"\x7f", "\x80", "yy"},
	} {
		for i, j := range []job.Job{{}, {Numeric: true}} {
			if got := job.Ahead(j, c.a, c.b); got != (c.want[i] == 'y') {
				t.Errorf("Ahead(%q, %q), Numeric %t: %t", c.a, c.b, j.Numeric, got)
			}
			j.Down = true
			if got := job.Ahead(j, c.b, c.a); got != (c.want[i] == 'y') {
				t.Errorf("Ahead(%q, %q), Numeric %t, Down: %t", c.b, c.a, j.Numeric, got)
			}
		}
	}
}

// TestOrder checks that of two different keys one comes before the other, and
// that this relation is transitive.
func TestOrder(t *testing.T) {
	l := keys()
	for _, j := range orders() {
		ahead := make([][]bool, len(l))
		for a := range l {
			ahead[a] = make([]bool, len(l))
			for b := range l {
				ahead[a][b] = job.Ahead(j, l[a], l[b])
				if w := wantAhead(j, l[a], l[b]); ahead[a][b] != w {
					t.Errorf("Ahead(%q, %q), Numeric %t, Down %t: want %t", l[a], l[b], j.Numeric, j.Down, w)
				}
				other := words()
				other.Numeric, other.Down = j.Numeric, j.Down
				if job.Ahead(other, l[a], l[b]) != ahead[a][b] {
					t.Errorf("Ahead(%q, %q) depends on more than the order", l[a], l[b])
				}
			}
		}
		for a := range l {
			for b := range l {
				if ahead[a][b] && ahead[b][a] || (l[a] != l[b]) != (ahead[a][b] || ahead[b][a]) {
					t.Errorf("%q and %q: %t and %t", l[a], l[b], ahead[a][b], ahead[b][a])
				}
				for c := range l {
					if ahead[a][b] && ahead[b][c] && !ahead[a][c] {
						t.Errorf("%q, %q, %q: not transitive", l[a], l[b], l[c])
					}
				}
			}
		}
	}
}

func TestSame(t *testing.T) {
	changes := []func(j *job.Job){
		func(j *job.Job) {}, func(j *job.Job) { j.Words = !j.Words }, func(j *job.Job) { j.Where = read("num 5") }, func(j *job.Job) { j.Key = read("field 7") },
		func(j *job.Job) { j.Value = read("num 9", "not") }, func(j *job.Job) { j.Op += 20 }, func(j *job.Job) { j.Fold = read("num 8") }, func(j *job.Job) { j.Init.IsText = !j.Init.IsText },
		func(j *job.Job) { j.Init.N++ }, func(j *job.Job) { j.Init.S += "x" }, func(j *job.Job) { j.Combine = !j.Combine }, func(j *job.Job) { j.Parts += 20 },
		func(j *job.Job) { j.Down = !j.Down }, func(j *job.Job) { j.Numeric = !j.Numeric }, func(j *job.Job) { j.Fuel++ },
		func(j *job.Job) { j.Key = append(slices.Clone(j.Key), api.Ins{}) }, func(j *job.Job) { j.Fold = append(slices.Clone(j.Fold), api.Ins{}) },
		func(j *job.Job) { j.Where, j.Key = j.Key, j.Where }, func(j *job.Job) { j.Value, j.Fold = j.Fold, j.Value },
	}
	for _, j := range append(valids(), job.Job{}, job.Job{Key: read("num 1"), Value: read("num 2"), Where: read("num 3"), Fold: read("num 4"), Op: -1}) {
		for a, x := range changes {
			for b, y := range changes {
				j, k := copied(j), copied(j)
				x(&j)
				y(&k)
				if got := job.Same(j, k); got != equal(j, k) {
					t.Fatalf("changes %d and %d: Same(%v, %v) = %t", a, b, j, k, got)
				}
			}
		}
	}
	none, empty := job.Job{}, job.Job{Where: []api.Ins{}, Key: []api.Ins{}, Value: []api.Ins{}, Fold: []api.Ins{}}
	if !job.Same(none, empty) || !job.Same(empty, none) {
		t.Errorf("no instructions are not the same")
	}
	for i, j := range valids() {
		for k, other := range valids() {
			if job.Same(j, other) != (i == k) {
				t.Errorf("Same of the jobs %d and %d", i, k)
			}
		}
	}
}

// TestResultsAreNew checks that jobs that were decoded share no memory, and that
// their programs share none.
func TestResultsAreNew(t *testing.T) {
	s := "op 7\nparts 1\nfuel 7\ninit num 3\nwhere:\nnum 1\nkey:\nfield 0\nvalue:\nfield 1\nfold:\nacc\n"
	first, _ := job.Decode(s)
	want := copied(first)
	second, _ := job.Decode(s)
	for _, p := range []*[]api.Ins{&first.Where, &first.Key, &first.Value, &first.Fold} {
		others := copied(first)
		(*p)[0].N++
		grown := append(*p, api.Ins{Op: 5}, api.Ins{Op: 6})
		clear(grown[:cap(grown)][len(*p):])
		(*p)[0].N--
		if !equal(first, others) {
			t.Errorf("%v and %v", first, others)
		}
		(*p)[0].N = 77
	}
	if again, _ := job.Decode(s); !equal(second, want) || !equal(again, want) {
		t.Errorf("%v and %v, want %v", second, again, want)
	}
}

// random returns a random job, which is often valid.
func random(r *rand.Rand) job.Job {
	numbers := [][]api.Ins{read("num 1"), read("count"), read("field 3", "len"), read("num -5", "num 7", "mul"), read(`text "ab"`, "hash")}
	strs := [][]api.Ins{read("field 0"), read(`text "a\nb:"`), read("num 3", "totext"), read("field 1", "field 2", "join", "upper"), read(`text "\"\\"`)}
	folds := [][]api.Ins{read("acc"), read("item"), read("acc", "item", "add"), read("acc", "item", "join"), read("acc", "item", "len", "add"), read("acc", "item", "totext", "join")}
	pick := func(l [][]api.Ins) []api.Ins { return l[r.Intn(len(l))] }
	j := job.Job{Words: r.Intn(2) > 0, Key: pick(strs), Value: pick(numbers), Op: r.Intn(8), Parts: 1 + r.Intn(8), Down: r.Intn(2) > 0, Numeric: r.Intn(2) > 0, Fuel: r.Intn(100001)}
	if r.Intn(2) > 0 {
		j.Where = pick(numbers)
	}
	if j.Op == job.Join || j.Op > job.Max && r.Intn(2) > 0 {
		j.Value = pick(strs)
	}
	j.Combine = j.Op <= job.Max && r.Intn(2) > 0
	if j.Op == job.Fold {
		j.Fold, j.Init = pick(folds), num(r.Intn(1<<r.Intn(40))-5)
		if r.Intn(2) > 0 {
			j.Init = text(long(r.Intn(30)))
		}
	}
	switch r.Intn(20) {
	case 0:
		j.Op = r.Intn(12) - 2
	case 1:
		j.Key, j.Value = j.Value, j.Key
	case 2:
		j.Init.N = r.Intn(3)
	case 3:
		j.Parts, j.Fuel = r.Intn(12)-1, r.Intn(200000)-50000
	}
	return j
}

func TestRandomJobs(t *testing.T) {
	r := rand.New(rand.NewSource(17))
	good := 0
	for range 4000 {
		j := random(r)
		verify(t, j)
		s, e := job.Encode(j)
		if e != api.OK {
			continue
		}
		good++
		i := r.Intn(len(s))
		verifyDecode(t, s)
		verifyDecode(t, s[:i]+"0\"\\\nn a1-7:"[r.Intn(11):][:1]+s[i+r.Intn(2):])
	}
	if good < 1000 {
		t.Errorf("only %d of the random jobs are valid", good)
	}
}

func FuzzJob(f *testing.F) {
	for i, j := range valids() {
		s, _ := job.Encode(j)
		f.Add(s[:min(len(s), 300)], keys()[i], keys()[i+5], i)
	}
	f.Fuzz(func(t *testing.T, s, a, b string, n int) {
		verifyDecode(t, s)
		j := folding(read("field 0"), read("acc"), api.Val{IsText: n%2 == 0, N: n % 3, S: a})
		verify(t, j)
		for _, j := range orders() {
			j.Parts = n
			if g, w := job.Part(j, a), wantPart(j, a); g != w {
				t.Errorf("Part(%d, %q) = %d, want %d", n, a, g, w)
			}
			for _, k := range [][2]string{{a, b}, {b, a}, {a, a}} {
				if g, w := job.Ahead(j, k[0], k[1]), wantAhead(j, k[0], k[1]); g != w {
					t.Errorf("Ahead(%q, %q), Numeric %t, Down %t: %t", k[0], k[1], j.Numeric, j.Down, g)
				}
			}
		}
	})
}
