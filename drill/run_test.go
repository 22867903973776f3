package drill

import (
	"fmt"
	"strings"
	"testing"

	"kiln/api"
)

// 22.2: a script's lines are what stands between newline bytes; a part behind the last one that is empty is no line.
func TestRun(t *testing.T) {
	for script, want := range map[string]string{
		"": "", "\n": "\n", "\n\n": "\n\n", " ": "\n", "#": "\n", "stat": "error 221\n", "stat\n": "error 221\n", "stat\n\n": "error 221\n\n", "\nstat": "\nerror 221\n",
		"stat\r\n": "error 220\n", "stat\n ": "error 221\n\n", "\\\n": "error 220\n", "# x\nstat # y\n\topen": "\nerror 221\nerror 222\n",
		"source \"a\" \"\nb\"": "error 220\nerror 220\n", "source \"a\" \"\\n\"": "ok 1\n", "\"": "error 220\n", "format 40 8\nopen\npin\nread 1 \"x\"": "ok\nok 0 0\nok 1 0\nerror 90\n",
		strings.Repeat("x", 4097) + "\nstat": "error 223\nerror 221\n", strings.Repeat(" ", 4096) + "\n" + strings.Repeat(" ", 4097): "\nerror 223\n",
	} {
		if got, err := Run(script); got != want || err != api.OK {
			t.Errorf("22.2: %.99q: %.99q, %d, want %.99q", script, got, err, want)
		}
	}
}

// 22.2: how many lines and bytes a script may have.
func TestRunBounds(t *testing.T) {
	for _, line := range []string{"", "stat", "\\", "# é"} {
		answer, _ := Run(line + "\n")
		for _, n := range []int{1, 2, 511, 512, 513, 514, 1024, 9999} {
			for _, end := range []string{"", "\n", "\n "} {
				script := strings.Repeat(line+"\n", n-1) + line + end
				lines := strings.Split(strings.TrimSuffix(script, "\n"), "\n")
				if script == "" {
					lines = nil
				}
				want, wantErr := strings.Repeat(answer, len(lines)), api.OK
				if len(lines) > 0 && strings.TrimSpace(lines[len(lines)-1]) == "" {
					want = strings.Repeat(answer, len(lines)-1) + "\n"
				}
				if len(lines) > 512 || len(script) > 65536 {
					want, wantErr = "", api.ErrScript
				}
				if got, err := Run(script); got != want || err != wantErr {
					t.Errorf("22.2: %d lines %q, %q: %d bytes, %d, want %d, %d", n, line, end, len(got), err, len(want), wantErr)
				}
			}
		}
	}
	for _, n := range []int{65535, 65536, 65537, 65538, 1 << 20} {
		for _, line := range []string{" ", "x", "\\", "\""} {
			script := strings.Repeat(strings.Repeat(line, 4000)+"\n", n/4001) + strings.Repeat(line, n%4001)
			got, err := Run(script)
			if n > 65536 && (got != "" || err != api.ErrScript) || n <= 65536 && (got == "" || err != api.OK) {
				t.Errorf("22.2: %d bytes: %.99q, %d", n, got, err)
			}
		}
	}
	if got, err := Run(strings.Repeat("\xff", 65537) + strings.Repeat("\n", 600)); got != "" || err != api.ErrScript {
		t.Errorf("22.2: both too long: %q, %d", got, err)
	}
}

// 22.2: a script is done by a new drill, line by line.
func TestRunIsDo(t *testing.T) {
	for seed := range int64(60) {
		c := newChance(seed)
		x := New()
		var script, want strings.Builder
		for range 40 {
			line := strings.ReplaceAll(c.line(), "\n", "")
			if script.Len()+len(line) >= 65536 {
				break
			}
			script.WriteString(line + "\n")
			want.WriteString(x.Do(line) + "\n")
		}
		for range 2 { // one Run leaves nothing to another one
			if got, err := Run(script.String()); got != want.String() || err != api.OK {
				t.Fatalf("22.2: %s", differ(got, want.String()))
			}
		}
	}
}

// differ: the first line by which two texts are unlike.
func differ(got, want string) string {
	a, b := strings.Split(got, "\n"), strings.Split(want, "\n")
	for i := range min(len(a), len(b)) {
		if a[i] != b[i] {
			return fmt.Sprintf("line %d: %.300q, want %.300q", i, a[i], b[i])
		}
	}
	return fmt.Sprintf("%d lines, want %d", len(a), len(b))
}
