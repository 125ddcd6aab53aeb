package config

import (
	"turnpike/api"
	"turnpike/chain"
	"turnpike/handle"
	"turnpike/route"
	"turnpike/shelf"
)

// Check tells whether a configuration is valid, and which spot is the first that makes it none.
func Check(c api.Config) (api.Spot, api.Errno) {
	for _, check := range []func(api.Config) (api.Spot, api.Errno){
		checkSettings, checkMiddles, checkRoutes, checkAnswers, checkFiles,
	} {
		if spot, err := check(c); err != api.OK {
			return spot, err
		}
	}
	return api.Spot{}, api.OK
}

// spotOf is a spot, if there is an error to be told of it.
func spotOf(kind, number int, err api.Errno) (api.Spot, api.Errno) {
	if err == api.OK {
		return api.Spot{}, api.OK
	}
	return api.Spot{Kind: kind, Number: number}, err
}

func checkSettings(c api.Config) (api.Spot, api.Errno) {
	l := settings()
	for number := settingName; number <= settingSlash; number++ {
		if !l[number].may(c) {
			return spotOf(api.SpotSetting, number, api.ErrSetting)
		}
	}
	return api.Spot{}, api.OK
}

func checkMiddles(c api.Config) (api.Spot, api.Errno) {
	number, err := checkChain(c.Middles)
	return spotOf(api.SpotMiddle, number, err)
}

// checkChain tells of the first element that is not right.
func checkChain(l []api.Middle) (int, api.Errno) {
	for number, m := range l {
		if err := chain.Check(m); err != api.OK {
			return number, err
		}
	}
	return 0, api.OK
}

// checkRoutes looks at what is asked for at which patterns.
func checkRoutes(c api.Config) (api.Spot, api.Errno) {
	_, number, err := route.New(c.Routes, c.Slash)
	return spotOf(api.SpotRoute, number, err)
}

// checkAnswers looks at what is answered there.
func checkAnswers(c api.Config) (api.Spot, api.Errno) {
	for number, x := range c.Routes {
		err := handle.Check(x.Handler)
		if err == api.OK {
			_, err = checkChain(x.Middles)
		}
		if err != api.OK {
			return spotOf(api.SpotRoute, number, err)
		}
	}
	return api.Spot{}, api.OK
}

func checkFiles(c api.Config) (api.Spot, api.Errno) {
	_, number, err := shelf.New(c.Files)
	return spotOf(api.SpotFile, number, err)
}
