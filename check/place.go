package check

import (
	"offshoot/api"
)

const nowhere = -1 // of a step that is not there

// begins tells whether a text may begin with a step.
func begins(name string) bool {
	switch name {
	case "V", "E", "addV", "inject":
		return true
	}
	return false
}

// belongs tells whether a step belongs to another one.
func belongs(name string) bool {
	switch name {
	case "by", "times", "until", "emit", "to", "from":
		return true
	}
	return false
}

// most is how many steps of a name may belong to a host.
func most(host, name string) int {
	switch host + "." + name {
	case "order.by":
		return api.MostArgs
	case "group.by":
		return 2
	case "groupCount.by", "dedup.by", "repeat.times", "repeat.until", "repeat.emit", "addE.to", "addE.from":
		return 1
	}
	return 0
}

// tooMany tells whether more steps of a step's name stand behind its host, up to it, than may belong to that: none may, if there is no such host.
func tooMany(l []api.Step, i, host int) bool {
	if host == nowhere {
		return true
	}
	n := 0
	for _, s := range l[host+1 : i+1] {
		if s.Name == l[i].Name {
			n++
		}
	}
	return n > most(l[host].Name, l[i].Name)
}

// lacks tells whether a step must have another one next, and has not.
func lacks(name string, behind []api.Step) bool {
	next := ""
	if len(behind) > 0 {
		next = behind[0].Name
	}
	switch name {
	case "addE":
		return next != "to" && next != "from"
	case "repeat":
		return !belongs(next)
	}
	return false
}
