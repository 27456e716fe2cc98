package console

import (
	"fmt"
	"slices"
	"strings"
	"testing"

	"jobcase/api"
	"jobcase/disk"
	"jobcase/fs"
	"jobcase/mount"
)

// run lines that may be run: each has an answer.
func run(t *testing.T, lines ...string) []string {
	t.Helper()
	out, err := Run(lines)
	if err != nil || len(out) != len(lines) {
		t.Fatalf("%q: %d answers, %v", lines, len(out), err)
	}
	return out
}

// see a session: lines, each with the answer that is wanted behind " => ".
func see(t *testing.T, script string) {
	t.Helper()
	var lines, want []string
	for _, s := range strings.Split(strings.Trim(script, "\n"), "\n") {
		line, answer, ok := strings.Cut(s, " => ")
		if !ok {
			t.Fatalf("%q has no answer", s)
		}
		lines, want = append(lines, line), append(want, answer)
	}
	for i, got := range run(t, lines...) {
		if got != want[i] {
			t.Errorf("line %d: %q: %q, not %q", i, lines[i], got, want[i])
		}
	}
}

// TestExample: the session of the document's section 'Examples'.
func TestExample(t *testing.T) {
	see(t, `
mkdir|/Äb => ok
mkdir|/äB => error 6
stat|/Äb => folder 2 up 1
create|/äb/Chapel|hay => ok
create|/äb/czar|oats => ok
create|/äb/day| => ok
create|/äb/cz|x => ok
list|/äb|-|9 => cz=6 czar=4 Chapel=3 day=5
list|/äb|-|2 => cz=6 czar=4
list|/äb|cz|2 => czar=4 Chapel=3
order|ch|cz => above
order|é|e => above
order|éa|eb => below
order|ÇA|ça => alike
write|/ÄB/CHAPEL|straw => ok
stat|/äb/chapel => file 3 links 1 straw
link|/äb/chapel|/Kirche => ok
stat|/kirche => file 3 links 2 straw
rm|/äb/CHAPEL => ok
stat|/KIRCHE => file 3 links 1 straw
mv|/kirche|/KIRCHE => ok
list|/|-|9 => Äb=2 KIRCHE=3
mkdir|/äb/in => ok
mv|/äb|/äb/in/x => error 8
mv|/äb/in|/out => ok
list|/|-|9 => Äb=2 KIRCHE=3 out=7
rmdir|/äb => error 6
rmdir|/out => ok
mv|/kirche|/äb => error 7
save => ok
restart|0 => ok
list|/äb|a|9 => cz=6 czar=4 day=5
stat|/äb/../äb/. => folder 2 up 1
create|/äb/day|x => error 6
mkdir|/n/m => error 5
stat|/none => error 5
name|ȩ́ => ok
name|́a => error 3
rm|/äb => error 7
fly high => error 4
`)
}

// TestM1Lines: at most MaxLines.
func TestM1Lines(t *testing.T) {
	for _, lines := range [][]string{nil, {}} {
		if out, err := Run(lines); len(out) != 0 || err != nil {
			t.Errorf("no lines: %q %v", out, err)
		}
	}
	lines := slices.Repeat([]string{"name|a"}, api.MaxLines)
	if out := run(t, lines...); !slices.Equal(out, slices.Repeat([]string{"ok"}, api.MaxLines)) {
		t.Errorf("%d lines: %q", api.MaxLines, out)
	}
	for _, more := range []int{1, 2, 1000} {
		many := append(slices.Clone(lines), slices.Repeat([]string{"fly"}, more)...)
		if out, err := Run(many); len(out) != 0 || err != error(api.ErrMany) {
			t.Errorf("%d lines: %q %v", len(many), out, err)
		}
	}
}

// TestM1Changes: each word that changes something, and what it is told of.
func TestM1Changes(t *testing.T) {
	see(t, `
stat|/ => folder 1 up 1
list|/|-|9 => -
mkdir|/d => ok
mkdir|/d/in => ok
stat|/d/in => folder 3 up 2
create|/f|hay => ok
create|/d/g| => ok
stat|/F => file 4 links 1 hay
stat|/d/g => file 5 links 1 
rm|/d => error 7
rmdir|/f => error 7
rmdir|/d => error 6
link|/f|/d/L => ok
link|/d|/k => error 7
link|/f|/d/l => error 6
stat|/d/l => file 4 links 2 hay
write|/d/l|two words => ok
stat|/f => file 4 links 2 two words
write|/d|x => error 7
rm|/f => ok
rm|/f => error 5
stat|/d/l => file 4 links 1 two words
mv|/d/in|/IN => ok
mv|/d|/d/d => error 8
stat|/in => folder 3 up 1
mv|/d/l|/in/M => ok
list|/d|-|9 => g=5
list|/in|-|9 => M=4
mv|/in/m|/d/g => ok
list|/d|-|9 => g=4
list|/in|-|9 => -
rmdir|/in => ok
mkdir|/in => ok
stat|/in => folder 6 up 1
rm|/d/g => ok
rmdir|/d => ok
list|/|-|9 => in=6
`)
}

// TestM1Texts: a text is what stands between '|', and nothing of it is trimmed.
func TestM1Texts(t *testing.T) {
	long := strings.Repeat("z", api.MaxText)
	for _, text := range []string{"", " ", " a  b ", "=>", "-", "\xff\x00\n", "/", long} {
		for _, lines := range [][]string{
			{"create|/a|" + text, "stat|/a"},
			{"create|/a|old", "write|/a|" + text, "stat|/a"},
		} {
			out := run(t, lines...)
			for _, s := range out[:len(out)-1] {
				if s != "ok" {
					t.Errorf("%q: %q", lines, out)
				}
			}
			if got := out[len(out)-1]; got != "file 2 links 1 "+text {
				t.Errorf("%q: %q", lines, got)
			}
		}
	}
	see(t, `
create|/a|`+long+`z => error 2
create|/a|`+long+` => ok
write|/a|`+long+`z => error 2
create|/b|x|y => error 4
write|/a|x|y => error 4
write|/a|| => error 4
stat|/a => file 2 links 1 `+long+`
stat|/b => error 5
`)
}

func TestM1List(t *testing.T) {
	see(t, `
list|/|-|9 => -
create|/é| => ok
mkdir|/eb => ok
create|/-| => ok
create|/x y| => ok
create|/ch| => ok
list|/|-|9 => -=4 ch=6 é=2 eb=3 x y=5
list|/|-|999 => -=4 ch=6 é=2 eb=3 x y=5
list|/||999 => -=4 ch=6 é=2 eb=3 x y=5
list|/|-|0 => -
list|/|-|1 => -=4
list|/|-|4 => -=4 ch=6 é=2 eb=3
list|/|-|5 => -=4 ch=6 é=2 eb=3 x y=5
list|/|cz|2 => ch=6 é=2
list|/|CH|2 => é=2 eb=3
list|/|É|9 => eb=3 x y=5
list|/|X Y|9 => -
list|/|e|1 => é=2
list|/eb|-|9 => -
list|/eb|a|9 => -
list|/none|-|9 => error 5
list|/é|-|9 => error 7
list|/é|.|9 => error 7
list||-|9 => error 3
list|/|.|9 => error 3
list|/|́|9 => error 3
list|/|aaaaaaaaaaaaa|9 => error 2
list|/|aaaaaaaaaaaaaaaaaaaaaaaaa|9 => error 1
list|/|`+"\xff"+`|0 => error 4
`)
}

func TestM1NameAndOrder(t *testing.T) {
	see(t, `
name|a => ok
name|- => ok
name|x y => ok
name| => error 1
name|aaaaaaaaaaaaaaaaaaaaaaaaa => error 1
name|aaaaaaaaaaaaa => error 2
name|aaaaaaaaaaaa => ok
name|. => error 3
name|.. => error 3
name|ñ => error 3
name|a/b => error 3
name|`+"a\xff"+` => error 4
order|a|b => below
order|b|a => above
order|a|A => alike
order|-|- => alike
order|Σ|ς => alike
order|c|ch => below
order|ci|ch => below
order|d|ch => above
order||a => error 3
order|a| => error 3
order|aaaaaaaaaaaaa|a => error 3
order|a|`+"\xff"+` => error 3
order|.|. => error 3
order|ñ|a => error 3
order|a|.. => error 3
`)
}

// TestM1Numbers: from 0 to 999, without noughts ahead.
func TestM1Numbers(t *testing.T) {
	wrong := []string{"", "00", "01", "-1", "-0", "+1", "+0", " 1", "1 ", "1000", "x", "0x1", "1_0", "1.0", "1e1", "\u0661", "99999999999999999999", "18446744073709551616", "4294967296"}
	for _, n := range wrong {
		see(t, "mkdir|/a => ok\nlist|/|-|"+n+" => error 4\nlist|/none|-|"+n+" => error 4\nrestart|"+n+" => error 4\narm|"+n+" => error 4\nmkdir|/b => ok")
	}
	for _, n := range []int{1, 9, 10, 100, 998, 999} {
		see(t, fmt.Sprintf("mkdir|/a => ok\nlist|/|-|%d => a=2\nrestart|%d => ok\nlist|/|-|%d => a=2", n, n, n))
	}
	see(t, "restart|0 => ok\narm|0 => ok")
	see(t, "arm|999 => ok")
}

// TestM1SaveAndRestart: what is done is there, saved or not, behind each restart.
func TestM1SaveAndRestart(t *testing.T) {
	see(t, `
save => ok
restart|0 => ok
mkdir|/Äb => ok
restart|0 => ok
stat|/äb => folder 2 up 1
save => ok
save => ok
create|/äb/f|hay => ok
mkdir|/äB => error 6
restart|999 => ok
restart|1 => ok
stat|/ÄB/F => file 3 links 1 hay
rm|/äb/f => ok
restart|0 => ok
stat|/äb/f => error 5
create|/äb/f| => ok
stat|/äb/f => file 4 links 1 
list|/|-|9 => Äb=2
`)
}

// TestM1AllOfTheLog: a session may have more deeds than a log has room for.
func TestM1AllOfTheLog(t *testing.T) {
	script := "create|/f|\n"
	for i := range 39 {
		script += fmt.Sprintf("write|/f|%d\nstat|/f\n", i)
	}
	out := run(t, strings.Split(script+"restart|0", "\n")...)
	for i := range 39 {
		if out[1+2*i] != "ok" || out[2+2*i] != fmt.Sprint("file 2 links 1 ", i) {
			t.Fatalf("%d: %q, %q", i, out[1+2*i], out[2+2*i])
		}
	}
}

// TestM1Full: of nodes, and of rows.
func TestM1Full(t *testing.T) {
	var lines, want []string
	for i := range api.MaxNodes {
		lines, want = append(lines, fmt.Sprint("mkdir|/", i)), append(want, "ok")
	}
	want[api.MaxNodes-1] = "error 9" // as the root is one of them
	if out := run(t, lines...); !slices.Equal(out, want) {
		t.Errorf("%q: %q", lines, out)
	}
	lines, want = []string{"create|/f|"}, []string{"ok"}
	for i := range api.MaxLines - 2 { // beside entries there are three rows
		lines, want = append(lines, fmt.Sprint("link|/f|/", i)), append(want, "ok")
		if i+1 > api.MaxRows-4 {
			want[i+1] = "error 9"
		}
	}
	lines, want = append(lines, "stat|/f"), append(want, fmt.Sprintf("file 2 links %d ", api.MaxRows-3))
	if out := run(t, lines...); !slices.Equal(out, want) {
		t.Errorf("%q: %q", lines, out)
	}
}

// TestM2Errors: those that a session can have, by their numbers.
func TestM2Errors(t *testing.T) {
	see(t, `
name| => error 1
mkdir|// => error 1
mkdir|/a/b/c/d/e/f/g => error 2
mkdir|/a/.. => error 3
rm| => error 3
mkdir|/`+"\xff"+` => error 4
rm|/a => error 5
mkdir|/a => ok
mkdir|/a => error 6
rm|/a => error 7
mv|/a|/a/b => error 8
stat|/a => folder 2 up 1
`)
}

// words of lines, and how many texts stand behind each.
func words() map[string]int {
	return map[string]int{"mkdir": 1, "rm": 1, "rmdir": 1, "create": 2, "write": 2, "link": 2, "mv": 2, "stat": 1, "list": 3, "name": 1, "order": 2, "save": 0, "arm": 1, "restart": 1}
}

// TestM2NoLine: of each word with each count of texts but its own.
func TestM2NoLine(t *testing.T) {
	for word, many := range words() {
		for n := range 6 {
			if n == many {
				continue
			}
			for _, text := range []string{"", "/", "/a", "a", "1", "-"} {
				line := word + strings.Repeat("|"+text, n)
				see(t, "create|/a| => ok\n"+line+" => error 4\nstat|/a => file 2 links 1 \nlist|/|-|9 => a=2")
			}
		}
		for _, w := range []string{" " + word, word + " ", strings.ToUpper(word), word + "\x00", word[:len(word)-1], word + word, ""} {
			see(t, w+strings.Repeat("|1", many)+" => error 4")
		}
	}
	see(t, ` => error 4
| => error 4
|| => error 4
fly => error 4
fly high => error 4
fly|high => error 4
mkdir /a => error 4
ok => error 4
|save => error 4
save| => error 4
list|/|-|9| => error 4
list|/ => error 4
list|/|-|9 => -
`)
	for _, line := range []string{"\xff", "\x00", "mkdir\xff|/a", "mkdir\u2758/a", "save\n", "\nsave", "save\r"} {
		if out := run(t, line); out[0] != "error 4" {
			t.Errorf("%q: %q", line, out)
		}
	}
}

// filled up to so many bytes.
func filled(line string, n int) string { return line + strings.Repeat("x", n-len(line)) }

// TestM2LongLine: of just MaxLine bytes, and of more.
func TestM2LongLine(t *testing.T) {
	for n, want := range map[int]string{79: "error 1", 80: "error 1", 81: "error 4", 82: "error 4", 100000: "error 4"} {
		for _, begin := range []string{"name|", "mkdir|/", "stat|/a/./", "list|/|", "mv|/a|/"} {
			line := filled(begin, n)
			if begin == "list|/|" {
				line = filled(begin, n-2) + "|9"
			}
			see(t, "mkdir|/a => ok\n"+line+" => "+want+"\nlist|/|-|9 => a=2")
		}
	}
	// A line of as many bytes as it may have is done.
	folder := "/" + strings.Repeat("\u03a3", 12)
	to := folder + "/" + strings.Repeat("\u03c3", 11) + "z"
	line := "mv|" + folder + "/f|" + to
	if len(line) != api.MaxLine {
		t.Fatalf("the line has %d bytes", len(line))
	}
	see(t, "mkdir|"+folder+" => ok\ncreate|"+folder+"/f|hay => ok\n"+line+"z => error 4\n"+line+" => ok\nstat|"+to+" => file 3 links 1 hay")
}

// TestM2FromArm: from the first arm on each line is answered, and none of it comes half way.
func TestM2FromArm(t *testing.T) {
	for steps := range 40 {
		for _, keep := range []int{0, 1, 2, 3, 4, 5, 6, 7, 85, 170, 511, 999} {
			out := run(t, "mkdir|/d", "create|/f|hay", fmt.Sprint("arm|", steps), "mv|/f|/d/g", "stat|/f", "save", "arm|5", "link|/f|/h", fmt.Sprint("restart|", keep), "list|/|-|9", "list|/d|-|9", "mkdir|/n", "stat|/n")
			fine := slices.Contains([]string{"d=2 f=3 / -", "d=2 / g=3"}, out[9]+" / "+out[10])
			if !fine || out[8] != "ok" || out[11] != "ok" || out[12] != "folder 4 up 1" {
				t.Errorf("behind %d steps, keeping %b: %q", steps, keep, out)
			}
			if out[3] == "ok" && out[10] != "g=3" || out[3] != "ok" && (out[3] != "error 10" || out[5] != "error 10") {
				t.Errorf("behind %d steps, keeping %b: %q", steps, keep, out)
			}
		}
	}
}

// TestM1Disk: a session begins on a formatted disk of Sectors sectors.
func TestM1Disk(t *testing.T) {
	s, err := begin()
	if err != nil || s.disk.Sectors() != api.Sectors || s.disk.Down() {
		t.Fatalf("%v, %v", s, err)
	}
	if l, next := s.mount.FS().Nodes(); len(l) != 1 || next != 2 {
		t.Errorf("%v, %d", l, next)
	}
}

// byHand: what a mount that is armed with so many steps does, and what it has behind a restart.
func byHand(t *testing.T, steps, keep int) (there bool, err error) {
	t.Helper()
	d, bad := disk.New(api.Sectors)
	if bad != nil {
		t.Fatal(bad)
	}
	if bad := mount.Format(d); bad != nil {
		t.Fatal(bad)
	}
	m, bad := mount.Open(d)
	if bad != nil {
		t.Fatal(bad)
	}
	d.Arm(steps)
	err = m.Do(func(f *fs.FS) error { return f.Mkdir("/a") })
	d.Restart(uint64(keep))
	if m, bad = mount.Open(d); bad != nil {
		t.Fatal(bad)
	}
	_, bad = m.FS().Find("/a")
	return bad == nil, err
}

// TestM1ArmAndRestart: they do to the disk what H2 and H3 say, with these very numbers.
func TestM1ArmAndRestart(t *testing.T) {
	ways := map[string]int{}
	for steps := range 30 {
		for _, keep := range []int{0, 1, 2, 3, 4, 5, 8, 16, 32, 64, 512, 998, 999} {
			there, err := byHand(t, steps, keep)
			want := []string{"ok", "ok", "ok", "-"}
			if err != nil {
				want[1] = "error 10"
			}
			if there {
				want[3] = "a=2"
			}
			out := run(t, fmt.Sprint("arm|", steps), "mkdir|/a", fmt.Sprint("restart|", keep), "list|/|-|9")
			if !slices.Equal(out, want) {
				t.Errorf("%d steps, keeping %d: %q, not %q", steps, keep, out, want)
			}
			ways[out[1]+" "+out[3]]++
		}
	}
	if ways["ok a=2"] == 0 || ways["error 10 -"] == 0 || ways["error 10 a=2"] == 0 {
		t.Errorf("not all ways were tried: %v", ways)
	}
	see(t, "arm|0 => ok\nmkdir|/a => error 10\nsave => error 10\nrestart|0 => ok\nmkdir|/a => ok\nsave => ok")
}

// TestZ2: lines are not written into, no session has anything of another one, and answers are fresh.
func TestZ2(t *testing.T) {
	lines := []string{"mkdir|/a", "list|/|-|9", "fly", "arm|1", "mkdir|/b"}
	back := append(slices.Clone(lines), "behind")
	given := back[:len(lines)]
	a := run(t, given...)
	b, err := Run(given)
	if err != nil || !slices.Equal(a, b) {
		t.Errorf("one session, and the same again: %q, %q", a, b)
	}
	if !slices.Equal(given, lines) || back[len(lines)] != "behind" {
		t.Errorf("the lines became %q", back)
	}
	a[0] = "mine"
	if b[0] != "ok" || given[0] != lines[0] {
		t.Errorf("lists share memory: %q, %q", b, given)
	}
}
