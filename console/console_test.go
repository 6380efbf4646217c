package console

import (
	"slices"
	"strconv"
	"strings"
	"testing"

	"tithebarn/api"
)

// run runs a script of lines, with / between, and answers so.
func run(t *testing.T, script string) string {
	t.Helper()
	s, e := Run(strings.ReplaceAll(script, " / ", "\n"))
	if e != api.OK {
		t.Fatal(e)
	}
	if s != "" && !strings.HasSuffix(s, "\n") {
		t.Fatalf("%q: a line is not ended", s)
	}
	return strings.ReplaceAll(strings.TrimSuffix(s, "\n"), "\n", " / ")
}

func check(t *testing.T, script, want string) {
	t.Helper()
	if s := run(t, script); s != want {
		t.Errorf("%s\n got %s\nwant %s", script, s, want)
	}
}

const base = ":package a 1 / :needs b * / :|file \"x\" = \"1\" / :package b 1 / :|file \"y\" = \"2\" / :package c 1"

// The document's examples
func TestExamples(t *testing.T) {
	check(t, "fly / list / :package a 1 / :|file \"x\" = \"1\" / install 100 a / list / objects", "error 2 / gens / ok / ok / gen 1 / gens 1 / current 1 / objects 1 a-1")
	check(t, ":package a 1 / install 1 b / switch 3 / verify", "ok / error 200 / error 260 / bad 0")
}

// P31.1: each line
func TestLines(t *testing.T) {
	oks := "ok / ok / ok / ok / ok / ok"
	for script, want := range map[string]string{
		"":                                   "",
		"#x / #":                             "",
		"install 9 a@* b / show 1 / objects": "gen 1 / wants a@* b / picks a:1 b:1 / objects A / objects 2 A",
		"install 9 a / remove 9 a / show 2 / list":                                                           "gen 1 / gen 2 / wants / picks / objects / gens 1 2 / current 2",
		"install 9 a / install 9 c / rollback / rollback / list":                                             "gen 1 / gen 2 / gen 1 / error 260 / gens 1 2 / current 1",
		"install 9 a / install 9 c / switch 1 / delete 1 / delete 2 / delete 2 / list":                       "gen 1 / gen 2 / ok / error 261 / ok / error 260 / gens 1 / current 1",
		"install 9 c / remove 1 c / delete 1 / root r 0 / collect / unroot r / unroot r / collect / objects": "gen 1 / gen 2 / ok / ok / gone 0 / ok / error 5 / gone 1 c-1 / objects 0",
		"root r 0 / root . 0 / root r -1 / unroot .":                                                         "error 90 / error 2 / error 90 / error 2",
		"install 9 c / root r 1 / root r -1":                                                                 "gen 1 / error 90 / error 90",
		"install 9 c / spoil 0 / verify / repair 0 / repair 9 / verify / spoil 7 / spoil -1 / verify":        "gen 1 / ok / bad 1 c-1 / fixed 1 0 / fixed 0 0 / bad 0 / ok / ok / bad 0",
		"install 9 b / spoil 0 / repair 2 / repair 9":                                                        "gen 1 / ok / fixed 0 1 / fixed 1 0",
		"install 2 b / install 3 b":                                                                          "error 230 / gen 1",
		"show 1 / show 0 / show -5":                                                                          "error 260 / error 260 / error 260",
		"used / disk 10 / used / install 9 c":                                                                "used 0 0 / ok / used 0 0 / error 41",
		"disk -5 / used / disk 0 / install 9 c":                                                              "ok / used 0 0 / ok / error 41",
		"clear / install 9 a / :package z 2 / install 9 z":                                                   "ok / error 200 / ok / gen 1",
		":junk / install 9 a / install 9 a@1":                                                                "ok / error 150 / error 150",
		"install 9 a@1 / remove 9 zz / remove 9 .":                                                           "error 2 / error 5 / error 2",
		"install 9 c / fail 0 / install 9 a / list / objects / install 9 c / collect / verify / repair 1 / show 1 / rollback / switch 1 / delete 1 / root r 0 / unroot r / remove 1 a / spoil 0 / fail 1 / used": "gen 1 / ok / error 40 / none / none / none / none / none / none / none / none / none / none / none / none / none / none / ok / used USED",
		"install 9 c / fail 0 / install 9 a / crash / list / install 9 a":          "gen 1 / ok / error 40 / ok / gens 1 / current 1 / gen 2",
		"install 9 c / fail 0 / install 9 a / disk 4000 / list / install 9 c":      "gen 1 / ok / error 40 / ok / gens / gen 1",
		"install 9 c / fail 0 / spoil 0 / list / crash 1 2 3 / list":               "gen 1 / ok / ok / none / ok / gens 1 / current 1",
		"install 9 c / remove 9 c / delete 1 / fail 0 / collect / crash / collect": "gen 1 / gen 2 / ok / ok / error 40 / ok / gone 1 c-1",
		"install 9 b / spoil 0 / fail 0 / repair 9 / crash / repair 9":             "gen 1 / ok / ok / error 40 / ok / fixed 1 0",
		"install 9 c / fail 0 / spoil 0 / verify":                                  "gen 1 / ok / ok / none",
		"fail 0 / fail -1 / install 9 c":                                           "ok / ok / gen 1",
		"crash / crash 0 / crash -1 5 999999999 / list":                            "ok / ok / ok / gens",
		"install 9 c / fail 3 / crash / install 9 a":                               "gen 1 / ok / ok / gen 2",
	} {
		got := run(t, base+" / "+script)
		got = strings.TrimPrefix(strings.TrimPrefix(got, oks), " / ")
		for _, names := range []string{"a-1 b-1", "b-1 a-1"} {
			got = strings.ReplaceAll(got, names, "A")
		}
		if at := strings.LastIndex(got, "used "); strings.HasSuffix(want, "USED") && at >= 0 {
			got = got[:at] + "used USED"
		}
		if got != want {
			t.Errorf("%s\n got %s\nwant %s", script, got, want)
		}
	}
	if s := run(t, base+" / install 9 c / used"); !strings.HasSuffix(s, " 2") || strings.HasSuffix(s, "used 0 2") {
		t.Error(s)
	}
	// lines: the last one not ended, others empty; what is behind : is the catalogue's, as it is
	check(t, "\n\nlist\n\n#list\nlist", "gens / gens")
	check(t, ":# a remark / : / :package a 1 / :| let a = \" / install 9 a", "ok / ok / ok / ok / error 220")
}

// P31.1: how great the disk is, and how much a spoilt file has
func TestDisk(t *testing.T) {
	big := ":|let s = \"x\" / :|for i = 1 to 16 / :|let s = s .. s / :|end / :|for i = 1 to 15 / :|file str(i) = s / :|end"
	script := "clear"
	for i := range 5 {
		script += " / :package p" + strconv.Itoa(i) + " 1 / " + big
	}
	for i := range 5 {
		script += " / install 99999 p" + strconv.Itoa(i)
	}
	if s := run(t, script); !strings.HasSuffix(s, "ok / gen 1 / gen 2 / gen 3 / gen 4 / error 41") {
		t.Error(s)
	}
	s := strings.Split(run(t, base+" / install 9 b / used / spoil 0 / used"), " / ")
	before, _ := strconv.Atoi(strings.Fields(s[7])[1])
	after, _ := strconv.Atoi(strings.Fields(s[9])[1])
	if whole := len("TAR1D\x00\x01\x00\x00\x00\x01yF\x00\x00\x00\x012"); before-after != whole-3 {
		t.Error(before, after)
	}
	if MaxScript != 65536 {
		t.Error("MaxScript")
	}
}

// P31.1: lines that are none
func TestNone(t *testing.T) {
	for _, line := range []string{"fly", " ", " list", "list ", "list 1", "lists", "List", "clear 1", "disk", "disk x", "disk 1 2", "install", "install 9", "install a", "install 9  a", "install 9 a ", "install  9 a", "install x a", "remove", "remove 9", "rollback 1", "switch", "switch x", "switch 1 2", "delete", "delete 01", "root", "root r", "root r x", "root 1 2 3", "unroot", "unroot a b", "collect 1", "verify 1", "repair", "repair x", "repair 1 2", "show", "show 1 2", "objects 1", "spoil", "spoil x", "spoil 1 2", "unroot", "root r 1 2", "fail", "fail x", "fail 1 2", "crash x", "crash 1 x", "crash ", "used 1", "switch 00", "switch -0", "switch -", "switch +1", "switch 1000000000", "switch -1000000000", "switch 99999999999999999999999", "switch 1.0", "switch --1", "switch 1-", "switch 0x1", "switch -01", "\tlist", "list\r", "list\t"} {
		check(t, line, "error 2")
		// also where there is no profile; and no other answer changes
		check(t, "fail 0 / :package a 1 / install 9 a / "+line+" / list / crash / "+line+" / list", "ok / ok / error 40 / error 2 / none / ok / error 2 / gens")
	}
	check(t, "switch 999999999 / switch -999999999 / switch 0", "error 260 / error 260 / error 260")
}

// P31.1: the limit
func TestLimit(t *testing.T) {
	if s, e := Run(strings.Repeat("#", MaxScript)); s != "" || e != api.OK {
		t.Error(e)
	}
	if s, e := Run(strings.Repeat("list\n", MaxScript/5) + "#"); strings.Count(s, "gens\n") != MaxScript/5 || e != api.OK {
		t.Error(e)
	}
	if s, e := Run(strings.Repeat("#", MaxScript+1)); s != "" || e != api.ErrLimit {
		t.Error(e)
	}
	if s, e := Run(strings.Repeat(":\n", MaxScript/2)); strings.Count(s, "ok\n") != MaxScript/2 || e != api.OK {
		t.Error(e)
	}
}

// P31.2
func TestFollows(t *testing.T) {
	lines := strings.Split(strings.ReplaceAll(base+" / install 9 a / list / fail 2 / install 9 c / objects / crash 3 9 1 / install 9 c / spoil 1 / verify / repair 9 / rollback / delete 2 / collect / used / show 1 / disk 300 / install 9 a / list", " / ", "\n"), "\n")
	whole := run(t, strings.Join(lines, "\n"))
	for i := range lines {
		first := run(t, strings.Join(lines[:i], "\n"))
		if !strings.HasPrefix(whole, first) {
			t.Fatalf("%q does not begin with %q", whole, first)
		}
		for _, passed := range []string{"", "#", "# list"} {
			if s := run(t, strings.Join(slices.Insert(slices.Clone(lines), i, passed), "\n")); s != whole {
				t.Fatal("a line that is passed over changes something")
			}
		}
		s := run(t, strings.Join(slices.Insert(slices.Clone(lines), i, "no line"), "\n"))
		if len(s) != len(whole)+len("error 2 / ") || !strings.Contains(s, "error 2") {
			t.Fatal("a line that is none changes something")
		}
	}
}

// P0.2 by lines: wherever the power goes, each call is done, or not at all.
func TestPower(t *testing.T) {
	for fail := range 40 {
		for keep := range 4 {
			s := run(t, base+" / install 9 a / fail "+strconv.Itoa(fail)+" / install 9 c / rollback / delete 2 / collect / crash "+strings.Repeat(strconv.Itoa(keep*37)+" ", 5)+"0 / verify / list / crash / list / install 9 c / verify / repair 9")
			parts := strings.Split(s, " / ")
			if slices.Contains(parts, "error 50") || !strings.HasSuffix(s, "bad 0 / fixed 0 0") {
				t.Fatalf("fail %d: %s", fail, s)
			}
		}
	}
}
